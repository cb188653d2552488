package build_test

import (
	"math/rand"
	"slices"
	"testing"

	"pushmill/api"
	"pushmill/build"
	"pushmill/lr"
)

func TestP48Brackets(t *testing.T) {
	g, tab := brackets(), bracketsTable()
	if made := tableOf(t, g); !slices.EqualFunc(made.Acts, tab.Acts, slices.Equal) || !slices.EqualFunc(made.Goto, tab.Goto, slices.Equal) {
		t.Fatalf("made: %v", made)
	}
	pushes(t, g, tab, build.Begin(), 0, at(1, 0, 1), []api.Event{had(0)}, api.OK)
	pushes(t, g, tab, at(1, 0, 1), 0, at(2, 0, 1, 3), []api.Event{had(1)}, api.OK)
	pushes(t, g, tab, at(2, 0, 1, 3), 1, at(3, 0, 1, 3, 5, 7), []api.Event{built(0), had(2)}, api.OK)
	pushes(t, g, tab, at(3, 0, 1, 3, 5, 7), 1, at(4, 0, 1, 4, 6), []api.Event{built(1), had(3)}, api.OK)
	pushes(t, g, tab, at(1, 0, 1), 1, at(2, 0, 1, 4, 6), []api.Event{built(0), had(1)}, api.OK)
	pushes(t, g, tab, at(2, 0, 1, 4, 6), 1, broken(2, api.ErrToken), nil, api.ErrToken)
	pushes(t, g, tab, at(3, 0, 1, 3, 5, 7), 0, broken(3, api.ErrToken), nil, api.ErrToken)
	pushes(t, g, tab, build.Begin(), 1, broken(0, api.ErrToken), nil, api.ErrToken)
}

// mixed is a grammar with Bodies of some widths, and a table that has each kind of act; lr.Make does not make it.
func mixed(t *testing.T) (api.Grammar, api.Table) {
	g := must(t, "2 2\n0:\n1: t0\n0: n1 t1\n1: n0 n0 n0\n")
	return g, table("s1 r0 r0 | 2 3", "r1 s0 - | - 4", "r3 r2 a | 1 -", "s4 - a | 0 2", "s4 r1 r2 | - -")
}

func TestP48KnownActs(t *testing.T) {
	g, tab := mixed(t)
	type list = []api.Event
	for _, one := range []struct {
		states []int
		term   int
		left   []int
		events list
		err    api.Errno
	}{
		{[]int{0}, 0, []int{0, 1}, list{had(5)}, 0},
		{[]int{4, 2, 0}, 0, []int{4, 2, 0, 1}, list{had(5)}, 0},
		{[]int{1}, 1, []int{1, 0}, list{had(5)}, 0},
		{[]int{4}, 0, []int{4, 4}, list{had(5)}, 0},
		{[]int{3}, 1, nil, nil, api.ErrToken},
		// A reduce takes as many states as its Body has symbols, and goes on from what is left.
		{[]int{0, 1}, 0, []int{0, 3, 4}, list{built(1), had(5)}, 0},
		{[]int{1, 3, 4, 2}, 0, []int{1, 4, 4}, list{built(3), had(5)}, 0},
		{[]int{0, 0, 0, 2}, 0, []int{0, 3, 4}, list{built(3), had(5)}, 0},
		{[]int{2, 1, 0, 0, 0, 2}, 0, []int{2, 1, 0, 3, 4}, list{built(3), had(5)}, 0},
		{[]int{2, 3, 4}, 1, []int{2, 1, 0}, list{built(1), built(2), had(5)}, 0},
		{[]int{0, 2, 2, 3, 4}, 1, []int{0, 2, 2, 1, 0}, list{built(1), built(2), had(5)}, 0},
		// It may not take them all, at once or behind others.
		{[]int{0, 2}, 0, nil, nil, api.ErrToken},
		{[]int{2}, 1, nil, nil, api.ErrToken},
		{[]int{0, 4, 2}, 0, nil, nil, api.ErrToken},
		{[]int{4}, 1, nil, nil, api.ErrToken},
		{[]int{0}, 1, nil, nil, api.ErrToken},
		{[]int{0, 0}, 1, nil, nil, api.ErrToken},
		{[]int{3, 1}, 0, nil, nil, api.ErrToken},
		{[]int{3, 0, 0, 2}, 0, nil, nil, api.ErrToken},
		{[]int{3, 4}, 1, nil, nil, api.ErrToken},
		{[]int{0, 3, 4}, 1, nil, nil, api.ErrToken},
		// Goto may lead nowhere.
		{[]int{4, 0, 0, 2}, 0, nil, nil, api.ErrToken},
		{[]int{0, 2, 1}, 0, nil, nil, api.ErrToken},
		{[]int{1, 0, 2}, 1, nil, nil, api.ErrToken},
		// Behind a reduce nothing may be to be done.
		{[]int{0, 4}, 1, nil, nil, api.ErrToken},
		{[]int{3, 0, 4}, 1, nil, nil, api.ErrToken},
		// What goes round and round is too much at some time.
		{[]int{1, 4}, 1, nil, nil, api.ErrStack},
		{[]int{3, 3, 4}, 1, nil, nil, api.ErrStack},
	} {
		want := at(6, one.left...)
		if one.err != api.OK {
			want = broken(5, one.err)
		}
		pushes(t, g, tab, at(5, one.states...), one.term, want, one.events, one.err)
		pushesPlainly(t, g, tab, at(5, one.states...), one.term)
	}
}

// The column of the terminal counts, and no other.
func TestP48ColumnsOfTerminals(t *testing.T) {
	for _, terms := range []int{1, 2, 30} {
		g := grammar(terms, 1)
		for n := range terms {
			var acts []api.Act
			for col := range terms {
				acts = append(acts, shift(1+col))
			}
			tab := api.Table{Acts: slices.Repeat([][]api.Act{append(acts, nothing())}, terms+1), Goto: slices.Repeat([][]int{{-1}}, terms+1)}
			pushes(t, g, tab, build.Begin(), n, at(1, 0, 1+n), []api.Event{had(0)}, api.OK)
			acts[n] = nothing()
			tab.Acts[0] = append(acts, nothing())
			pushes(t, g, tab, build.Begin(), n, broken(0, api.ErrToken), nil, api.ErrToken)
		}
	}
}

// Where a reduce leads hangs on its Head, and on the state that it comes to lie on.
func TestP48ColumnsOfHeads(t *testing.T) {
	for head := range 20 {
		g := grammar(1, 20, prod(head, term(0)))
		tab := table("- - |", "r0 - |", "s2 - |")
		for n := range tab.Goto {
			tab.Goto[n] = slices.Repeat([]int{1}, 20)
		}
		tab.Goto[0][head] = 2
		pushes(t, g, tab, at(0, 0, 1), 0, at(1, 0, 2, 2), []api.Event{built(0), had(0)}, api.OK)
		tab.Goto[0][head] = -1
		pushes(t, g, tab, at(0, 0, 1), 0, broken(0, api.ErrToken), nil, api.ErrToken)
	}
}

// Behind an error nothing more comes.
func TestP48AnErrorIsForGood(t *testing.T) {
	g, tab := mixed(t)
	for _, one := range []struct {
		states []int
		want   api.Errno
	}{{[]int{3}, api.ErrToken}, {[]int{0, 0}, api.ErrToken}, {[]int{1, 4}, api.ErrStack}, {[]int{3, 3, 4}, api.ErrStack}} {
		s, l, err := build.Push(g, tab, at(5, one.states...), 1)
		if !sameStacker(s, broken(5, one.want)) || len(l) > 0 || err != one.want {
			t.Errorf("%v: %v %v %d", one.states, s, l, err)
		}
		for n := range 2 {
			refused(t, g, tab, s, n, api.ErrOver)
		}
	}
}

// holds: is that error ErrToken where the token can't come, and else ErrStack where there would be too many?
func holds(t *testing.T, s api.Stacker, err api.Errno, cantCome, tooMany bool) {
	t.Helper()
	want := api.OK
	switch {
	case cantCome:
		want = api.ErrToken
	case tooMany:
		want = api.ErrStack
	}
	if err != want {
		t.Fatalf("%s: %d, not %d", show(s), err, want)
	}
}

// There may come to be 60 states, not more.
func TestP48StatesBound(t *testing.T) {
	shifts, goes := table("s0 - | -"), table("r0 - | 1", "s1 - | -")
	stays, stuck := table("r0 - | 1", "- - | -"), table("r0 - | -", "s1 - | -")
	for width := range 9 {
		g := grammar(1, 1, prod(0, slices.Repeat([]api.Sym{term(0)}, width)...))
		for n := 1; n <= 60; n++ {
			s := at(2, make([]int, n)...)
			_, err := pushesPlainly(t, g, shifts, s, 0)
			holds(t, s, err, false, n+1 > 60)
			_, err = pushesPlainly(t, g, goes, s, 0)
			holds(t, s, err, width >= n, n-width+2 > 60)
			_, err = pushesPlainly(t, g, stays, s, 0)
			holds(t, s, err, width > 0 || n < 60, n+1 > 60)
			_, err = pushesPlainly(t, g, stuck, s, 0)
			holds(t, s, err, true, false)
		}
	}
}

// Each pair within a pair has one state more below it.
func TestP48BracketsWithinBrackets(t *testing.T) {
	g, tab := brackets(), bracketsTable()
	states := []int{0, 1}
	s, _, _ := build.Push(g, tab, build.Begin(), 0)
	for i := 1; i < 59; i++ {
		states = append(states, 3)
		pushes(t, g, tab, s, 0, at(i+1, states...), []api.Event{had(i)}, api.OK)
		s = at(i+1, states...)
	}
	pushes(t, g, tab, s, 0, broken(59, api.ErrStack), nil, api.ErrStack)
	// For a t1 there would be two more: that of the empty pair's inside, and its own.
	pushes(t, g, tab, s, 1, broken(59, api.ErrStack), nil, api.ErrStack)
	s = at(58, states[:59]...)
	pushes(t, g, tab, s, 1, broken(58, api.ErrStack), nil, api.ErrStack)
	s = at(57, states[:58]...)
	pushes(t, g, tab, s, 1, at(58, append(states[:58:58], 5, 7)...), []api.Event{built(0), had(57)}, api.OK)
}

// A list that grows at its left may be as long as it likes.
func TestP48LongLists(t *testing.T) {
	g := must(t, "1 1\n0: n0 t0\n0: t0\n")
	tab := tableOf(t, g)
	s, l, err := build.Push(g, tab, build.Begin(), 0)
	for i := range 3000 {
		if len(s.States) > 3 || s.Seen != i+1 || len(l) != min(i, 1)+1 || l[len(l)-1] != had(i) || err != api.OK {
			t.Fatalf("%d: %v %v %d", i, s, l, err)
		}
		s, l, err = build.Push(g, tab, s, 0)
	}
	ends(t, g, tab, s, done(3001), []api.Event{built(0)}, api.OK)
}

// What would go on and on is too much at some time.
func TestP48EndlessReduces(t *testing.T) {
	for _, one := range []struct {
		grammar string
		tab     api.Table
		states  []int
	}{
		{"1 1\n0:\n", table("r0 r0 | 0"), []int{0}},
		{"1 1\n0:\n", table("r0 r0 | 0"), make([]int, 60)},
		{"1 1\n0: n0\n", table("r0 r0 | 0"), []int{0, 0}},
		{"1 1\n0: n0\n", table("r0 r0 | 0"), make([]int, 60)},
		{"1 1\n0:\n0: n0\n", table("r0 r0 | 1", "r1 r1 | -"), []int{0}},
		{"1 1\n0:\n0: n0 n0\n", table("r0 r0 | 1", "r0 r0 | 2", "r1 r1 | -"), []int{0}},
		{"1 2\n0: n1\n1: n0\n", table("- - | 1 2", "r1 r1 | - -", "r0 r0 | - -"), []int{0, 1}},
		{"1 2\n0: n1\n1: n0\n", table("- - | 1 2", "r1 r1 | - -", "r0 r0 | - -"), []int{1, 0, 2}},
	} {
		g, s := must(t, one.grammar), at(4, one.states...)
		pushes(t, g, one.tab, s, 0, broken(4, api.ErrStack), nil, api.ErrStack)
		ends(t, g, one.tab, s, broken(4, api.ErrStack), nil, api.ErrStack)
		pushesPlainly(t, g, one.tab, s, 0)
		endsPlainly(t, g, one.tab, s)
	}
}

// reducing is a grammar in which n11 makes the empty word by so many reduces, and the whole begins with that body. (n1 makes it by 1
// reduce, n2 by 3, and so on up to n10 by 1023; n12 has what does not go into the Body of n11.)
func reducing(reduces int, body ...api.Sym) api.Grammar {
	g := grammar(1, 13, prod(0, body...), prod(1))
	for n := 2; n <= 10; n++ {
		g.Prods = append(g.Prods, prod(n, non(n-1), non(n-1)))
	}
	var parts []api.Sym
	rest := reduces - 2
	for n := 10; n > 0; n-- {
		for one := 1<<n - 1; rest >= one; rest -= one {
			parts = append(parts, non(n))
		}
	}
	half := min(len(parts), 5)
	own := append(slices.Clone(parts[:half]), non(12))
	return grammar(1, 13, append(g.Prods, prod(11, own...), prod(12, parts[half:]...))...)
}

// 2000 acts may be done at a token, the shift included.
func TestP48ActsBound(t *testing.T) {
	for reduces := 1980; reduces <= 2020; reduces++ {
		g := reducing(reduces, non(11), term(0))
		tab := tableOf(t, g)
		s, err := pushesPlainly(t, g, tab, build.Begin(), 0)
		holds(t, build.Begin(), err, false, reduces+1 > 2000)
		if _, l, _ := build.Push(g, tab, build.Begin(), 0); err == api.OK && (len(l) != reduces+1 || s.Seen != 1) {
			t.Errorf("%d reduces: %v, %d events", reduces, s, len(l))
		}
	}
}

// A token that can't come when 2000 acts have been done is refused for that; when more would be done ahead, for these.
func TestP48TokenThatCantComeBehindManyActs(t *testing.T) {
	for reduces := 1990; reduces <= 2010; reduces++ {
		g := reducing(reduces, non(11), term(0))
		for name, cant := range map[string]func(tab api.Table) int{
			// There is nothing to be done where the shift stood.
			"nothing": func(tab api.Table) int {
				for _, acts := range tab.Acts {
					if acts[0].Kind == api.AShift {
						acts[0] = nothing()
					}
				}
				return reduces
			},
			// The last reduce leads nowhere.
			"nowhere": func(tab api.Table) int {
				tab.Goto[0][11] = -1
				return reduces - 1
			},
			// The last reduce takes too many: there are but seven states.
			"too many": func(tab api.Table) int {
				for _, acts := range tab.Acts {
					if acts[0] == reduce(11) {
						acts[0] = reduce(len(g.Prods))
					}
				}
				return reduces - 1
			},
		} {
			tab := tableOf(t, g)
			ahead := cant(tab)
			wider := g
			wider.Prods = append(slices.Clone(g.Prods), prod(11, slices.Repeat([]api.Sym{term(0)}, 8)...))
			_, err := pushesPlainly(t, wider, tab, build.Begin(), 0)
			if want := map[bool]api.Errno{true: api.ErrToken, false: api.ErrStack}[ahead <= 2000]; err != want {
				t.Fatalf("%s, %d reduces: %d, not %d", name, reduces, err, want)
			}
		}
	}
}

func TestP48SmallRanges(t *testing.T) {
	for _, of := range []struct{ terms, nons, prods, width, states, most int }{
		{1, 1, 2, 2, 1, 4}, {2, 1, 2, 2, 1, 3}, {1, 2, 2, 2, 1, 3}, {1, 1, 1, 2, 2, 3}, {1, 1, 2, 1, 2, 2}, {0, 1, 2, 2, 2, 3}, {0, 2, 1, 2, 2, 3},
	} {
		told := map[api.Errno]int{}
		shapes(of.terms, of.nons, of.prods, of.width, func(g api.Grammar) {
			piles := lists(below(of.states), of.most)
			allTables(g, of.states, func(tab api.Table) {
				for _, states := range piles {
					s := api.Stacker{States: states, Seen: len(states)}
					for n := range of.terms {
						_, err := pushesPlainly(t, g, tab, s, n)
						told[err]++
					}
					told[endsPlainly(t, g, tab, s)]++
				}
			})
		})
		if len(told) != 4 || told[api.OK] < 300 || told[api.ErrToken] < 300 || told[api.ErrStack] < 30 {
			t.Errorf("of %v: told %v", of, told)
		}
	}
}

// From the beginning on, token by token, as long as these are taken, by tables with Fights, too.
func TestP48SmallRangesOfWords(t *testing.T) {
	for _, of := range []struct{ terms, nons, prods, width, most int }{{1, 1, 3, 2, 6}, {2, 1, 2, 3, 5}, {2, 2, 2, 2, 4}, {1, 2, 3, 2, 4}} {
		longest := 0
		small(of.terms, of.nons, of.prods, of.width, func(g api.Grammar) {
			tab, _, err := lr.Make(g)
			if err != api.OK {
				t.Fatalf("Make(%s): %d", show(g), err)
			}
			longest = max(longest, goOn(t, g, tab, build.Begin(), of.most))
		})
		if longest != of.most {
			t.Errorf("of %v: only %d tokens", of, longest)
		}
	}
}

// goOn pushes all that may come, and tells how many tokens came at most.
func goOn(t *testing.T, g api.Grammar, tab api.Table, s api.Stacker, most int) int {
	t.Helper()
	endsPlainly(t, g, tab, s)
	longest := s.Seen
	for n := range g.Terms {
		if d, err := pushesPlainly(t, g, tab, s, n); err == api.OK && s.Seen < most {
			longest = max(longest, goOn(t, g, tab, d, most))
		}
	}
	return longest
}

func TestP48Samples(t *testing.T) {
	rng := rand.New(rand.NewSource(48))
	told := map[api.Errno]int{}
	for range 4000 {
		g := wildOne(rng)
		states := 1 + rng.Intn(1+rng.Intn(200))
		tab := someTable(rng, g, states, rng.Intn(4)*rng.Intn(4), rng.Intn(11))
		for range 4 {
			s := someStacker(rng, states, 1+rng.Intn(60))
			for range 10 {
				told[endsPlainly(t, g, tab, s)]++
				if g.Terms == 0 {
					break
				}
				d, err := pushesPlainly(t, g, tab, s, rng.Intn(g.Terms))
				told[err]++
				if err != api.OK {
					break
				}
				s = d
			}
		}
	}
	for _, err := range []api.Errno{api.OK, api.ErrArg, api.ErrToken, api.ErrStack} {
		if told[err] < 1000 {
			t.Errorf("told: %v", told)
		}
	}
}
