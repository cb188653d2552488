package dfa_test

import (
	"math/rand"
	"slices"
	"strings"
	"testing"

	"pushmill/api"
	"pushmill/dfa"
	"pushmill/places"
	"pushmill/rex"
)

// makes: does Make answer want of p?
func makes(t *testing.T, p api.Posn, want api.Dfa) {
	t.Helper()
	got, err := dfa.Make(p)
	if err != api.OK || !same(got, want) {
		t.Errorf("Make(%s) = %s, %d, not %s", show(p), brief(got), err, brief(want))
	}
}

// refuses: does Make answer that error, and nothing else?
func refuses(t *testing.T, p api.Posn, want api.Errno) {
	t.Helper()
	d, err := dfa.Make(p)
	if err != want || d.Rows != nil || d.Tags != nil {
		t.Errorf("Make(%s) = %s, %d, not %d alone", show(p), brief(d), err, want)
	}
}

// way of an automaton: the bytes of a text lead from a state to another.
type way struct {
	from  int
	bytes string
	to    int16
}

// built is an automaton with those tags and ways, and no others.
func built(tags []int, ways ...way) api.Dfa {
	d := idle(len(tags))
	d.Tags = tags
	for _, w := range ways {
		for _, b := range []byte(w.bytes) {
			d.Rows[w.from][b] = w.to
		}
	}
	return d
}

func TestP19Examples(t *testing.T) {
	makes(t, posn(t, "ab*", "a"), built([]int{-1, 0, 0}, way{0, "a", 1}, way{1, "b", 2}, way{2, "b", 2}))
	makes(t, posn(t, "a", "ab*"), built([]int{-1, 0, 1}, way{0, "a", 1}, way{1, "b", 2}, way{2, "b", 2}))
	makes(t, posn(t, "(a|b)*a"), built([]int{-1, 0, -1},
		way{0, "a", 1}, way{0, "b", 2}, way{1, "a", 1}, way{1, "b", 2}, way{2, "a", 1}, way{2, "b", 2}))
	makes(t, posn(t, "[b-y]+", "[d-z]"), built([]int{-1, 0, 0, 1, 0},
		way{0, "bc", 1}, way{0, "defghijklmnopqrstuvwxy", 2}, way{0, "z", 3},
		way{1, "bcdefghijklmnopqrstuvwxy", 4}, way{2, "bcdefghijklmnopqrstuvwxy", 4}, way{4, "bcdefghijklmnopqrstuvwxy", 4}))
}

// No state leads to the beginning, though a set may do just what it does.
func TestP19TheBeginningIsNoSet(t *testing.T) {
	makes(t, posn(t, "a*"), built([]int{0, 0}, way{0, "a", 1}, way{1, "a", 1}))
	makes(t, posn(t, "(ab)*"), built([]int{0, -1, 0}, way{0, "a", 1}, way{1, "b", 2}, way{2, "a", 1}))
	rng := rand.New(rand.NewSource(4))
	for range 500 {
		d, _ := dfa.Make(wildPosn(rng, 1+rng.Intn(12), 1+rng.Intn(4)))
		for _, row := range d.Rows {
			if slices.Contains(row[:], 0) {
				t.Fatalf("a state leads to the beginning: %s", brief(d))
			}
		}
	}
}

// What leads nowhere is still one state: the beginning.
func TestP19NothingButTheBeginning(t *testing.T) {
	makes(t, posn(t, "[]"), built([]int{-1}))
	makes(t, posn(t, "()"), built([]int{0}))
	makes(t, posn(t, "[]a", "[]*"), built([]int{1}))
	makes(t, api.Posn{Empty: make([]bool, 20)}, built([]int{-1}))
	p := line(1)
	p.First = nil
	makes(t, p, built([]int{-1}))
	p = line(1)
	p.Classes[0] = api.Class{}
	makes(t, p, built([]int{-1}))
	p = crowd(200)
	p.First = nil
	makes(t, p, built([]int{-1}))
}

// Sets that are the same but for the way to them are one state, and those of other places are others, though they do
// the same.
func TestP19StatesAreSets(t *testing.T) {
	makes(t, posn(t, "a|b"), built([]int{-1, 0, 0}, way{0, "a", 1}, way{0, "b", 2}))
	makes(t, posn(t, "[ab]"), built([]int{-1, 0}, way{0, "ab", 1}))
	makes(t, posn(t, "(a|b)c"), built([]int{-1, -1, -1, 0}, way{0, "a", 1}, way{0, "b", 2}, way{1, "c", 3}, way{2, "c", 3}))
	makes(t, posn(t, "aaa"), built([]int{-1, -1, -1, 0}, way{0, "a", 1}, way{1, "a", 2}, way{2, "a", 3}))
	makes(t, posn(t, "ab[]"), built([]int{-1, -1, -1}, way{0, "a", 1}, way{1, "b", 2}))
}

func TestP19NumberedAsFirstComeTo(t *testing.T) {
	// The bytes are gone through, not the places.
	makes(t, posn(t, "c", "b", "a"), built([]int{-1, 2, 1, 0}, way{0, "a", 1}, way{0, "b", 2}, way{0, "c", 3}))
	// All that the beginning leads to comes ahead of what those lead to.
	makes(t, posn(t, "ad|bc|ce"), built([]int{-1, -1, -1, -1, 0, 0, 0},
		way{0, "a", 1}, way{0, "b", 2}, way{0, "c", 3}, way{1, "d", 4}, way{2, "c", 5}, way{3, "e", 6}))
	makes(t, posn(t, `\xffa|\x00b|\x80c|\x7fd|\x40e|\x3ff`), built([]int{-1, -1, -1, -1, -1, -1, -1, 0, 0, 0, 0, 0, 0},
		way{0, "\x00", 1}, way{0, "\x3f", 2}, way{0, "\x40", 3}, way{0, "\x7f", 4}, way{0, "\x80", 5}, way{0, "\xff", 6},
		way{1, "b", 7}, way{2, "f", 8}, way{3, "e", 9}, way{4, "d", 10}, way{5, "c", 11}, way{6, "a", 12}))
	// A class's least byte may be met later than another's greatest one.
	makes(t, posn(t, "[am]|[bz]"), built([]int{-1, 0, 0}, way{0, "am", 1}, way{0, "bz", 2}))
}

func TestP19TagsAreTheLeastRules(t *testing.T) {
	// Of places made by hand a lesser rule may have a greater place.
	p := api.Posn{
		Classes: classes("a", "a", "a", "b"), Rules: []int{2, 3, 1, 0}, First: []int{0, 1, 2, 3},
		Follow: [][]int{{0}, {1}, nil, {1, 2}}, Last: []bool{true, true, true, false}, Empty: []bool{false, false, false, true},
	}
	makes(t, p, built([]int{3, 1, -1, 2, 1, 3}, way{0, "a", 1}, way{0, "b", 2}, way{1, "a", 3}, way{2, "a", 4}, way{3, "a", 3}, way{4, "a", 5}, way{5, "a", 5}))
	p.Last = []bool{false, true, false, true}
	makes(t, p, built([]int{3, 3, 0, 3, 3, 3}, way{0, "a", 1}, way{0, "b", 2}, way{1, "a", 3}, way{2, "a", 4}, way{3, "a", 3}, way{4, "a", 5}, way{5, "a", 5}))
	p.Last = make([]bool, 4)
	makes(t, p, built([]int{3, -1, -1, -1, -1, -1}, way{0, "a", 1}, way{0, "b", 2}, way{1, "a", 3}, way{2, "a", 4}, way{3, "a", 3}, way{4, "a", 5}, way{5, "a", 5}))
}

// Of the beginning only Empty is asked.
func TestP19TagOfTheBeginning(t *testing.T) {
	for least := range 20 {
		p := line(1)
		p.Last[0] = true
		p.Empty = make([]bool, 20)
		makes(t, p, built([]int{-1, 0}, way{0, "a", 1}))
		for rule := least; rule < 20; rule += 3 {
			p.Empty[rule] = true
		}
		p.Rules[0] = 19 - least
		makes(t, p, built([]int{least, 19 - least}, way{0, "a", 1}))
	}
}

// All of two places and two rules, with the classes of two bytes.
func TestP19AllOfTwoPlaces(t *testing.T) {
	lists := [][]int{nil, {0}, {1}, {0, 1}}
	four := classes("", "a", "b", "ab")
	bit := func(i, n int) bool { return i>>n%2 == 1 }
	for i := range 4 * 4 * 4 * 4 * 4 {
		p := api.Posn{First: lists[i%4], Follow: [][]int{lists[i/4%4], lists[i/16%4]}, Classes: []api.Class{four[i/64%4], four[i/256]}}
		twin := twins(p)
		for j := range 64 {
			p.Last, p.Empty, p.Rules = []bool{bit(j, 0), bit(j, 1)}, []bool{bit(j, 2), bit(j, 3)}, []int{j >> 4 % 2, j >> 5}
			want, _ := byTexts(p, twin)
			makes(t, p, want)
		}
	}
}

// fits: does Make answer what the chapter says of a p that is right? The answer is how many states there are, or 0.
func fits(t *testing.T, p api.Posn, twin [256]int) int {
	t.Helper()
	want, err := byTexts(p, twin)
	if err != api.OK {
		refuses(t, p, err)
		return 0
	}
	makes(t, p, want)
	return len(want.Rows)
}

func TestP19SampledPosns(t *testing.T) {
	rng := rand.New(rand.NewSource(5))
	some, many, refused := 0, 0, 0
	for range 1500 {
		p := wildPosn(rng, 1+rng.Intn(30), 1+rng.Intn(5))
		switch n := fits(t, p, twins(p)); {
		case n == 0:
			refused++
		case n > 20:
			many++
		case n > 3:
			some++
		}
	}
	for range 25 {
		p := wildPosn(rng, 100+rng.Intn(101), 1)
		fits(t, p, twins(p))
	}
	for range 20 { // and of each byte by itself
		fits(t, wildPosn(rng, 1+rng.Intn(8), 1+rng.Intn(3)), strangers())
	}
	if some < 100 || many < 100 || refused < 20 {
		t.Errorf("tried: %d with some states, %d with many, %d with too many", some, many, refused)
	}
}

// Classes of random bytes: nearly each byte has another set.
func TestP19ManyColumns(t *testing.T) {
	rng := rand.New(rand.NewSource(6))
	for range 40 {
		p := wildPosn(rng, 1+rng.Intn(6), 1+rng.Intn(3))
		for place := range p.Classes {
			p.Classes[place] = api.Class{rng.Uint64(), rng.Uint64(), rng.Uint64(), rng.Uint64()}
		}
		fits(t, p, strangers())
	}
}

// Two sets of 200 places that differ in one place are two states, wherever that place is.
func TestP19EachPlaceCounts(t *testing.T) {
	for place := range 200 {
		p := crowd(200)
		p.Follow = make([][]int, 200)
		p.Last = make([]bool, 200)
		p.Rules[place], p.Last[place], p.Empty = 1, true, []bool{false, false}
		p.Classes[place] = bytesOf("a")
		makes(t, p, built([]int{-1, 1, -1}, way{0, "a", 1}, way{0, "z", 2}))
		p.First = []int{place}
		makes(t, p, built([]int{-1, 1}, way{0, "a", 1}))
		p.Follow[place] = []int{place}
		makes(t, p, built([]int{-1, 1}, way{0, "a", 1}, way{1, "a", 1}))
		p.Follow[place] = []int{(place + 64) % 200}
		makes(t, p, built([]int{-1, 1, -1}, way{0, "a", 1}, way{1, "az", 2}))
	}
}

func TestP19EachByteLeads(t *testing.T) {
	for b := range 256 {
		p := line(2)
		p.Classes[1] = bytesOf(string([]byte{byte(b)}))
		makes(t, p, built([]int{-1, -1, 0}, way{0, "a", 1}, way{1, string([]byte{byte(b)}), 2}))
	}
}

// states: does Make answer so many states, or, of more than 200, ErrStates?
func states(t *testing.T, p api.Posn, n int) {
	t.Helper()
	d, err := dfa.Make(p)
	switch {
	case n > 200:
		refuses(t, p, api.ErrStates)
	case err != api.OK || len(d.Rows) != n || len(d.Tags) != n:
		t.Errorf("Make(%s) has %d states, %d tags, %d, not %d", show(p), len(d.Rows), len(d.Tags), err, n)
	}
}

func TestP19HowManyStates(t *testing.T) {
	for n := range 201 {
		states(t, line(n), n+1)
		states(t, fan(n), n+1)
	}
	round := line(199) // its last state, the 200th, leads on
	round.Follow[198] = []int{0}
	states(t, round, 200)
	round = line(200)
	round.Follow[199] = []int{0}
	states(t, round, 201)
}

// looksBack is a rule of texts of a and b in which an a is so many bytes ahead of the last one: a set for each of the
// ways in which these bytes may be.
func looksBack(t *testing.T, n int) api.Posn {
	t.Helper()
	return posn(t, "(a|b)*a"+strings.Repeat("[ab]", n))
}

func TestP19StatesByThePower(t *testing.T) {
	for n := range 12 {
		states(t, looksBack(t, n), 1+1<<(n+1))
	}
	for _, more := range []int{0, 1, 70, 71, 72, 73, 150} {
		row := line(more)
		for place := range row.Classes {
			row.Classes[place] = bytesOf("c")
		}
		states(t, joined(looksBack(t, 6), row), 129+more)
		states(t, joined(row, looksBack(t, 6)), 129+more)
	}
}

// bits is so many places with which a text may begin: each has the bytes that have one of the bits.
func bits(n int) api.Posn {
	p := fan(n)
	for place := range n {
		p.Classes[place] = api.Class{}
		for b := range 256 {
			if b>>place%2 == 1 {
				p.Classes[place][b/64] |= 1 << (b % 64)
			}
		}
	}
	return p
}

func TestP19ManyStatesOfOneRow(t *testing.T) {
	for n := range 9 {
		states(t, bits(n), 1<<n)
	}
	for more := 70; more < 76; more++ { // 128 states of the bits, and those behind the byte 0
		row := line(more)
		for place := range row.Classes {
			row.Classes[place] = bytesOf("\x00\x80")
		}
		states(t, joined(bits(7), row), 128+more)
	}
}

// posnFaults has what makes a Posn of some places a wrong one.
func posnFaults() []func(p *api.Posn) {
	return []func(p *api.Posn){
		func(p *api.Posn) { p.Rules = p.Rules[1:] },
		func(p *api.Posn) { p.Follow = p.Follow[1:] },
		func(p *api.Posn) { p.Follow = append(p.Follow, nil) },
		func(p *api.Posn) { p.Last = p.Last[1:] },
		func(p *api.Posn) { p.Classes = append(p.Classes, api.Class{}) },
		func(p *api.Posn) { p.Empty = nil },
		func(p *api.Posn) { p.Empty = make([]bool, 21) },
		func(p *api.Posn) { p.Rules[0] = -1 },
		func(p *api.Posn) { p.Rules[1] = len(p.Empty) },
		func(p *api.Posn) { p.First = []int{-1} },
		func(p *api.Posn) { p.First = []int{0, len(p.Classes)} },
		func(p *api.Posn) { p.First = []int{1 << 40} },
		func(p *api.Posn) { p.Follow[0] = []int{1, 0} },
		func(p *api.Posn) { p.Follow[1] = []int{-1 << 40} },
		func(p *api.Posn) { p.Follow[1] = []int{0, 0} },
	}
}

func TestP19WrongPlaces(t *testing.T) {
	refuses(t, api.Posn{}, api.ErrArg)
	for _, n := range []int{201, 202, 256, 257, 1000} { // ahead of ErrStates, and where there would be few states
		refuses(t, line(n), api.ErrLarge)
		refuses(t, crowd(n), api.ErrLarge)
	}
	for _, n := range []int{2, 3, 199, 200, 201} {
		for i, fault := range posnFaults() {
			p := line(n)
			fault(&p)
			if places.Check(p) != api.ErrArg {
				t.Fatalf("fault %d is none", i)
			}
			refuses(t, p, api.ErrArg)
		}
	}
}

func TestP19CheckLetsPassWhatMakeMakes(t *testing.T) {
	rng := rand.New(rand.NewSource(7))
	for range 500 {
		if d, err := dfa.Make(wildPosn(rng, 1+rng.Intn(40), 1)); err == api.OK {
			checks(t, d, api.OK)
		}
	}
	for _, p := range []api.Posn{line(199), fan(199), crowd(200), {Empty: []bool{true}}} {
		d, _ := dfa.Make(p)
		checks(t, d, api.OK)
	}
}

// leastMatching is the least rule that matches s, or -1.
func leastMatching(t *testing.T, rules []api.Rex, s string) int {
	t.Helper()
	return slices.IndexFunc(rules, func(r api.Rex) bool {
		is, err := rex.Matches(r, s)
		if err != api.OK {
			t.Fatalf("Matches(%s, %q): %d", show(r), s, err)
		}
		return is
	})
}

// The tag of a text is the least rule that matches it.
func TestP19TagsAreTheRulesThatMatch(t *testing.T) {
	rng := rand.New(rand.NewSource(8))
	texts := textsUpTo(4, "ab")
	found := map[int]int{}
	for range 1000 {
		l := wildRules(rng, 6, 16)
		p, err := places.Make(l)
		d, other := dfa.Make(p)
		if err != api.OK || other != api.OK {
			continue
		}
		for _, s := range append(texts, "c", "\x00", "\xff\xff", "ab\x3f\x40", wildText(rng, 5), wildText(rng, 9)) {
			want := leastMatching(t, l, s)
			if got, err := dfa.Tag(d, s); err != api.OK || got != want {
				t.Errorf("%s: Tag of %q = %d, %d, not %d", show(l), s, got, err, want)
			}
			found[want]++
		}
	}
	for rule := -1; rule < 4; rule++ {
		if found[rule] < 100 {
			t.Errorf("tags: %v", found)
		}
	}
}

// However long a text is, its tag is the least rule that is done behind it, and texts have one state if one may be at
// the same places behind them.
func TestP19LongTexts(t *testing.T) {
	rng := rand.New(rand.NewSource(9))
	longest := 0
	for range 60 {
		p := wildPosn(rng, 5+rng.Intn(60), 1+rng.Intn(2))
		d, err := dfa.Make(p)
		if err != api.OK {
			continue
		}
		stateOf := map[string]int{}
		for s := ""; len(s) <= 200; s += "aab"[rng.Intn(3):][:1] {
			at, _ := places.Run(p, s)
			done, _ := places.Rules(p, s)
			if len(at) == 0 && s != "" {
				runs(t, d, s, -1, -1)
				break
			}
			key := show(at)
			if _, again := stateOf[key]; !again {
				stateOf[key], _ = dfa.Run(d, s)
			}
			runs(t, d, s, stateOf[key], append(done, -1)[0])
			longest = max(longest, len(s))
		}
		if n := len(stateOf); n != distinct(stateOf) {
			t.Errorf("%d sets are %d states", n, distinct(stateOf))
		}
	}
	if longest < 200 {
		t.Errorf("texts are no longer than %d", longest)
	}
}

// distinct is how many numbers a map tells.
func distinct(m map[string]int) int {
	seen := map[int]bool{}
	for _, n := range m {
		seen[n] = true
	}
	return len(seen)
}
