package lr_test

import (
	"cmp"
	"math/rand"
	"slices"
	"strings"
	"testing"

	"pushmill/api"
	"pushmill/lr"
)

func TestP37KnownTables(t *testing.T) {
	for _, c := range []struct {
		text   string
		want   api.Table
		fights []api.Fight
	}{
		{"1 1\n0: n0 t0\n0: t0\n", table("s1 - | 2", "r1 r1 | -", "s3 a | -", "r0 r0 | -"), nil},
		// Nothing is made, but the nonterminal 0, if it were had, would be the whole.
		{"0 1\n", table("- | 1", "a | -"), nil},
		{"2 2\n", table("- - - | 1 -", "- - a | - -"), nil},
		{"0 1\n0:\n", table("r0 | 1", "a | -"), nil},
		// Pairs of brackets.
		{"2 1\n0:\n0: t0 n0 t1\n", table("s1 - r0 | 2", "s3 r0 - | 4", "- - a | -", "s3 r0 - | 5",
			"- s6 - | -", "- s7 - | -", "- - r1 | -", "- r1 - | -"), nil},
		// Two of a kind, the first one with either behind it, the second one with the end.
		{"2 2\n0: n1 n1\n1: t0 n1\n1: t1\n", table("s1 s2 - | 3 4", "s1 s2 - | - 5", "r2 r2 - | - -", "- - a | - -", "s6 s7 - | - 8",
			"r1 r1 - | - -", "s6 s7 - | - 9", "- - r2 | - -", "- - r0 | - -", "- - r1 | - -"), nil},
		// The least production is taken, wherever its Head stands; of each further one there is a Fight.
		{"1 4\n0: n3\n0: n2\n0: n1\n1: t0\n3: t0\n2: t0\n", table("s1 - | 2 3 4 5", "- r3 | - - - -", "- a | - - - -",
			"- r2 | - - - -", "- r1 | - - - -", "- r0 | - - - -"),
			[]api.Fight{fight(1, 1, reduce(3), reduce(4)), fight(1, 1, reduce(3), reduce(5))}},
		// The same production twice is two, as by its number.
		{"0 1\n0:\n0:\n0:\n", table("r0 | 1", "a | -"),
			[]api.Fight{fight(0, 0, reduce(0), reduce(1)), fight(0, 0, reduce(0), reduce(2))}},
		// To accept comes behind every reduce.
		{"0 1\n0: n0\n", table("- | 1", "r0 | -"), []api.Fight{fight(1, 0, reduce(0), accept())}},
		{"0 1\n0: n0\n0: n0\n", table("- | 1", "r0 | -"),
			[]api.Fight{fight(1, 0, reduce(0), reduce(1)), fight(1, 0, reduce(0), accept())}},
		// At the end there is no shift: two reduces fight there, while at t0 there is a shift alone.
		{"1 1\n0:\n0: t0\n0: t0 n0\n", table("s1 r0 | 2", "s1 r0 | 3", "- a | -", "- r2 | -"),
			[]api.Fight{fight(1, 1, reduce(0), reduce(1))}},
		// A shift comes ahead of every reduce.
		{"1 1\n0: n0 n0\n0: t0\n", table("s1 - | 2", "r1 r1 | -", "s1 a | 3", "s1 r0 | 3"), []api.Fight{fight(3, 0, shift(1), reduce(0))}},
		{"1 2\n0: n1 t0\n0: t0\n1:\n1:\n", table("s1 - | 2 3", "- r1 | - -", "- a | - -", "s4 - | - -", "- r0 | - -"),
			[]api.Fight{fight(0, 0, shift(1), reduce(2)), fight(0, 0, shift(1), reduce(3))}},
		// What makes nothing has no act of its own, but it has a next state.
		{"1 2\n0: n1 t0\n", table("- - | 1 2", "- a | - -", "s3 - | - -", "- r0 | - -"), nil},
		// What is never come to has nothing at all.
		{"1 2\n0: t0\n1: n0 t0\n", table("s1 - | 2 -", "- r0 | - -", "- a | - -"), nil},
	} {
		g := must(t, c.text)
		makes(t, g, c.want, c.fights)
		checks(t, g, c.want, api.OK)
		if want, fights, err := plainMake(g); !sameTable(want, c.want) || !slices.Equal(fights, c.fights) || err != api.OK {
			t.Errorf("of %q the second reading has %v %v %d", c.text, want, fights, err)
		}
	}
}

// inOrder holds two Fights against each other: by State, then by Col, then by what else may be done.
func inOrder(a, b api.Fight) int {
	return cmp.Or(a.State-b.State, a.Col-b.Col, a.B.Kind-b.B.Kind, a.B.N-b.B.N)
}

// Fights stand in order, each once, with the act that the table has, which comes ahead of the other one; only a reduce or to accept is ever the other one.
func TestP37FightsInOrder(t *testing.T) {
	rng := rand.New(rand.NewSource(2))
	places, kinds := map[int]int{}, map[string]int{}
	for range 2000 {
		g := wild(rng, rng.Intn(5), 1+rng.Intn(4), rng.Intn(10), 3, 5)
		tab, fights, err := lr.Make(g)
		if err != api.OK {
			continue
		}
		for i, f := range fights {
			kinds[letter(f.A)[:1]+letter(f.B)[:1]]++
			if i > 0 && inOrder(fights[i-1], f) >= 0 {
				t.Fatalf("Make(%s): %v stands ahead of %v", show(g), fights[i-1], f)
			}
			if f.A != tab.Acts[f.State][f.Col] || f.A.Kind > f.B.Kind || f.A.Kind == f.B.Kind && f.A.N >= f.B.N {
				t.Fatalf("Make(%s): %v, where %v is done", show(g), f, tab.Acts[f.State][f.Col])
			}
			if f.B.Kind == api.AAccept && (f.B.N != 0 || f.Col != g.Terms) {
				t.Fatalf("Make(%s): %v", show(g), f)
			}
		}
		if len(fights) > 0 {
			places[min(fights[len(fights)-1].State-fights[0].State, 5)]++
		}
	}
	if len(kinds) != 3 || kinds["sr"] < 100 || kinds["rr"] < 100 || kinds["ra"] < 100 || places[5] < 50 {
		t.Errorf("only %v, %v", kinds, places)
	}
}

// Grammars of which it is well known whether they are LR(1).
func TestP37KnownGrammars(t *testing.T) {
	for _, c := range []struct {
		text   string
		states int
		fights []string // the acts of each, and the column
	}{
		// Sums and products with brackets.
		{"5 3\n0: n0 t0 n1\n0: n1\n1: n1 t1 n2\n1: n2\n2: t2 n0 t3\n2: t4\n", 22, nil},
		// Values are put at places.
		{"3 3\n0: n1 t0 n2\n0: n2\n1: t1 n2\n1: t2\n2: n1\n", 14, nil},
		// By states that know less (LALR) there would be Fights.
		{"5 3\n0: t0 n1 t3\n0: t1 n2 t3\n0: t0 n2 t4\n0: t1 n1 t4\n1: t2\n2: t2\n", 14, nil},
		// `if x`, with an `else` behind it or not: the `else` is of the last `if`.
		{"3 1\n0: t0 n0\n0: t0 n0 t1 n0\n0: t2\n", 0, []string{"s/r0 t1"}},
		// Sums without brackets, in which either may be the inner one.
		{"2 1\n0: n0 t0 n0\n0: t1\n", 0, []string{"s/r0 t0"}},
		// It takes two terminals to see whether t0 is n1 or n2.
		{"3 3\n0: n1 t1 t1\n0: n2 t1 t2\n1: t0\n2: t0\n", 0, []string{"r2/r3 t1"}},
		// Words that are the same from behind: where is the middle?
		{"2 1\n0:\n0: t0 n0 t0\n0: t1 n0 t1\n", 0, []string{"s/r0 t0", "s/r0 t1", "s/r0 t0", "s/r0 t1", "s/r0 t0", "s/r0 t1"}},
		// With a middle that is seen there is none.
		{"3 1\n0: t2\n0: t0 n0 t0\n0: t1 n0 t1\n", 0, nil},
	} {
		g := must(t, c.text)
		tab, l, err := lr.Make(g)
		if err != api.OK || c.states > 0 && len(tab.Acts) != c.states {
			t.Errorf("Make of %q: %d states, %d", c.text, len(tab.Acts), err)
		}
		var told []string
		for _, f := range l {
			told = append(told, letter(f.A)+"/"+letter(f.B)+" t"+string(rune('0'+f.Col)))
		}
		if !slices.Equal(told, c.fights) {
			t.Errorf("Make of %q: %v, not %v", c.text, told, c.fights)
		}
	}
}

// letter of an act; a reduce with its number.
func letter(act api.Act) string {
	s := "-sra"[act.Kind : act.Kind+1]
	if act.Kind == api.AReduce {
		s += string(rune('0' + act.N))
	}
	return s
}

func TestP37WrongGrammars(t *testing.T) {
	for _, g := range []api.Grammar{
		{}, grammar(-1, 1), grammar(31, 1), grammar(0, 0), grammar(0, 21), grammar(0, 1, prod(1)), grammar(0, 1, prod(-1)),
		grammar(1, 1, prod(0, term(1))), grammar(1, 1, prod(0, non(1))), grammar(1, 1, prod(0, api.Sym{})),
	} {
		refused(t, g, api.ErrArg)
	}
	refused(t, grammar(0, 1, slices.Repeat([]api.Prod{prod(0)}, 41)...), api.ErrLarge)
	refused(t, grammar(1, 1, prod(0, slices.Repeat([]api.Sym{term(0)}, 9)...)), api.ErrLarge)
}

func TestP37HowManyStates(t *testing.T) {
	for count := 180; count <= 198; count++ {
		tab, fights, err := plainly(t, forked(count))
		if len(tab.Acts) != count+2 || len(tab.Goto) != count+2 || len(fights) > 0 || err != api.OK {
			t.Errorf("%d states, %v, %d", len(tab.Acts), fights, err)
		}
	}
	for count := 199; count <= 220; count++ {
		makeFails(t, forked(count), api.ErrStates)
	}
	for places := 1; places <= 4; places++ {
		if tab, fights, err := plainly(t, ago(places)); err != api.OK || len(fights) > 0 || len(tab.Acts) < 1<<places {
			t.Errorf("of %d places: %d states, %v %d", places, len(tab.Acts), fights, err)
		}
	}
	for places := 8; places <= 19; places++ {
		makeFails(t, ago(places), api.ErrStates)
	}
}

func TestP37GreatStates(t *testing.T) {
	_, fights, err := plainly(t, heavy())
	if err != api.OK || len(fights) < 300 {
		t.Errorf("%d fights, %d", len(fights), err)
	}
	// As many reduces at one place as there are productions, and to accept.
	tab, fights, err := plainly(t, grammar(30, 20, slices.Repeat([]api.Prod{prod(0, non(0))}, 40)...))
	if err != api.OK || len(fights) != 40 || tab.Acts[1][30] != reduce(0) || fights[39] != fight(1, 30, reduce(0), accept()) {
		t.Errorf("%v %v %d", tab, fights, err)
	}
}

func TestP37TablesOfAllSmallGrammars(t *testing.T) {
	with, without := 0, 0
	each := func(g api.Grammar) {
		if _, fights, _ := plainly(t, g); len(fights) > 0 {
			with++
		} else {
			without++
		}
	}
	small(2, 2, 2, 2, each)
	small(1, 2, 3, 2, each)
	small(2, 2, 3, 1, each)
	small(2, 1, 3, 2, each)
	small(1, 1, 2, 4, each)
	small(0, 3, 2, 2, each)
	if with < 10000 || without < 10000 {
		t.Errorf("with Fights: %d, without: %d", with, without)
	}
}

func TestP37WildTables(t *testing.T) {
	rng := rand.New(rand.NewSource(1))
	counts := map[api.Errno]int{}
	with, three := 0, 0
	for i := range 1500 {
		g := wild(rng, rng.Intn(9), 1+rng.Intn(6), rng.Intn(14), rng.Intn(6), rng.Intn(10))
		if i%15 == 0 {
			g = wildOne(rng)
		}
		_, fights, err := plainly(t, g)
		counts[err]++
		if len(fights) > 0 {
			with++
		}
		for n := 1; n < len(fights); n++ {
			if fights[n-1].State == fights[n].State && fights[n-1].Col == fights[n].Col {
				three++
				break
			}
		}
	}
	if counts[api.OK] < 1000 || counts[api.ErrStates] < 5 || with < 300 || three < 100 {
		t.Errorf("told: %v, with Fights %d times, of three acts %d times", counts, with, three)
	}
}

// Other numbers for the terminals change the numbers of states, but not how many Fights there are of what.
func TestP37OtherNumbers(t *testing.T) {
	turn := strings.NewReplacer("t0", "t3", "t1", "t2", "t2", "t1", "t3", "t0")
	for _, text := range []string{
		"4 1\n0: n0 t0 n0\n0: n0 t1 n0\n0: t2 n0\n0: t3\n",
		"4 2\n0: t0 n0\n0: t0 n0 t1 n0\n0: n1\n1: t2\n1: t3\n1:\n",
		"4 2\n0: n1 n0 t1\n0: t0\n1: t2\n1:\n1: n1 t3\n",
	} {
		a, one, err := lr.Make(must(t, text))
		b, other, e := lr.Make(must(t, turn.Replace(text)))
		if len(a.Acts) != len(b.Acts) || len(one) == 0 || err != api.OK || e != api.OK {
			t.Errorf("of %q: %d and %d states, %v, %d %d", text, len(a.Acts), len(b.Acts), one, err, e)
		}
		if !slices.Equal(kinds(one, false), kinds(other, true)) {
			t.Errorf("of %q: %v and %v", text, kinds(one, false), kinds(other, true))
		}
	}
}

// kinds has the column and the acts of each Fight, sorted; of states it knows no numbers.
func kinds(fights []api.Fight, turned bool) []string {
	var l []string
	for _, f := range fights {
		if turned && f.Col < 4 {
			f.Col = 3 - f.Col
		}
		l = append(l, string(rune('0'+f.Col))+letter(f.A)+letter(f.B))
	}
	slices.Sort(l)
	return l
}
