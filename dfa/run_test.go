package dfa_test

import (
	"math"
	"math/rand"
	"slices"
	"strings"
	"testing"

	"pushmill/api"
	"pushmill/dfa"
)

// checks: does Check answer want, and do Run and Tag with it?
func checks(t *testing.T, d api.Dfa, want api.Errno) {
	t.Helper()
	if err := dfa.Check(d); err != want {
		t.Errorf("Check(%s) = %d, not %d", brief(d), err, want)
	}
	for _, s := range []string{"", "a", "a\x00\xff"} {
		state, runErr := dfa.Run(d, s)
		tag, tagErr := dfa.Tag(d, s)
		if runErr != want || tagErr != want || want != api.OK && (state != 0 || tag != 0) {
			t.Errorf("of %q behind %s: %d, %d; %d, %d; not %d", s, brief(d), state, runErr, tag, tagErr, want)
		}
	}
}

// runs: do Run and Tag answer that state, and that tag?
func runs(t *testing.T, d api.Dfa, s string, state, tag int) {
	t.Helper()
	if got, err := dfa.Run(d, s); err != api.OK || got != state {
		t.Errorf("Run(%s, %.20q of %d) = %d, %d, not %d", brief(d), s, len(s), got, err, state)
	}
	if got, err := dfa.Tag(d, s); err != api.OK || got != tag {
		t.Errorf("Tag(%s, %.20q of %d) = %d, %d, not %d", brief(d), s, len(s), got, err, tag)
	}
}

func TestP18HowManyStates(t *testing.T) {
	checks(t, api.Dfa{}, api.ErrArg)
	checks(t, api.Dfa{Rows: []api.Row{}, Tags: []int{}}, api.ErrArg)
	for n := 1; n <= 200; n++ {
		checks(t, idle(n), api.OK)
		checks(t, ring(n), api.OK)
	}
	for _, n := range []int{201, 202, 255, 256, 257, 400, 1 << 15, 1 << 16} {
		checks(t, idle(n), api.ErrLarge)
	}
	checks(t, ring(201), api.ErrLarge)
}

func TestP18AsManyTagsAsRows(t *testing.T) {
	counts := []int{0, 1, 2, 3, 20, 21, 199, 200, 201, 202, 1000}
	for _, n := range counts {
		for _, tags := range counts {
			want := api.ErrArg
			switch {
			case n > 200:
				want = api.ErrLarge
			case n == tags && n > 0:
				want = api.OK
			}
			checks(t, api.Dfa{Rows: idle(n).Rows, Tags: idle(tags).Tags}, want)
		}
	}
}

// withNumber is ring(n) with one number in one row.
func withNumber(n, state, b, number int) api.Dfa {
	d := ring(n)
	d.Rows[state][b] = int16(number)
	return d
}

// wrongNumbers has some that are no state's of n, and not -1.
func wrongNumbers(n int) []int {
	return []int{math.MinInt16, math.MinInt16 + 1, -256, -200, -3, -2, n, n + 1, 255, 256, math.MaxInt16 - 1, math.MaxInt16}
}

func TestP18NumbersInRows(t *testing.T) {
	for _, n := range []int{1, 2, 3, 7} {
		for state := range n {
			for b := range 256 {
				for _, number := range wrongNumbers(n) {
					checks(t, withNumber(n, state, b, number), api.ErrArg)
				}
				for number := -1; number < n; number++ {
					checks(t, withNumber(n, state, b, number), api.OK)
				}
			}
		}
	}
}

func TestP18NumbersInManyRows(t *testing.T) {
	edges := []int{0, 1, 63, 64, 127, 128, 191, 192, 254, 255}
	for state := range 200 {
		b := edges[state%len(edges)]
		for _, number := range []int{math.MinInt16, -2, 200, math.MaxInt16} {
			checks(t, withNumber(200, state, b, number), api.ErrArg)
		}
		checks(t, withNumber(200, 199-state, b, state), api.OK)
		checks(t, withNumber(200, state, b, -1), api.OK)
	}
	for b := range 256 {
		checks(t, withNumber(200, 199, b, 200), api.ErrArg)
		checks(t, withNumber(200, 0, b, -2), api.ErrArg)
	}
}

func TestP18TagsOutOfBounds(t *testing.T) {
	for _, n := range []int{1, 2, 3, 200} {
		for _, state := range []int{0, n / 2, n - 1} {
			for tag := -1; tag <= 19; tag++ {
				d := idle(n)
				d.Tags[state] = tag
				checks(t, d, api.OK)
			}
			for _, tag := range []int{math.MinInt, -1 << 32, math.MinInt16, -20, -2, 20, 21, 199, 200, 255, 256, 1 << 32, math.MaxInt} {
				d := idle(n)
				d.Tags[state] = tag
				checks(t, d, api.ErrArg)
			}
		}
	}
}

// A tag may be greater than there are states.
func TestP18TagsAreNoStates(t *testing.T) {
	d := idle(1)
	d.Tags[0] = 19
	checks(t, d, api.OK)
	runs(t, d, "", 0, 19)
}

// faults has what makes an automaton of some states a wrong one.
func faults() []func(d *api.Dfa) {
	return []func(d *api.Dfa){
		func(d *api.Dfa) { d.Tags = d.Tags[1:] },
		func(d *api.Dfa) { d.Tags = append(d.Tags, 0) },
		func(d *api.Dfa) { d.Tags = nil },
		func(d *api.Dfa) { d.Tags[0] = -2 },
		func(d *api.Dfa) { d.Tags[len(d.Tags)-1] = 20 },
		func(d *api.Dfa) { d.Rows[0][0] = -2 },
		func(d *api.Dfa) { d.Rows[len(d.Rows)-1][255] = int16(len(d.Rows)) },
	}
}

func TestP18TooManyStatesIsLookedAtFirst(t *testing.T) {
	for _, n := range []int{1, 2, 199, 200, 201, 202, 1000} {
		for i, fault := range faults() {
			d := ring(n)
			fault(&d)
			want := api.ErrArg
			if n > 200 {
				want = api.ErrLarge
			}
			if plainCheck(d) != want {
				t.Fatalf("fault %d of %d states is read as %d", i, n, plainCheck(d))
			}
			checks(t, d, want)
		}
	}
	checks(t, api.Dfa{Rows: make([]api.Row, 201)}, api.ErrLarge)
	checks(t, api.Dfa{Tags: make([]int, 201)}, api.ErrArg)
}

// What is wrong is told though no text leads there.
func TestP18WrongWhereNothingLeads(t *testing.T) {
	d := idle(3)
	d.Rows[2]['z'] = 3
	checks(t, d, api.ErrArg)
	d = idle(3)
	d.Tags[2] = 20
	checks(t, d, api.ErrArg)
}

func TestP18CheckOfSampled(t *testing.T) {
	rng := rand.New(rand.NewSource(1))
	counts := map[api.Errno]int{}
	for range 3000 {
		d := wildDfa(rng, []int{1, 2, 3, 20, 200, 201, 210}[rng.Intn(7)], 2+rng.Intn(9))
		if l := faults(); rng.Intn(2) == 0 {
			l[rng.Intn(len(l))](&d)
		}
		want := plainCheck(d)
		counts[want]++
		checks(t, d, want)
	}
	if counts[api.OK] < 500 || counts[api.ErrArg] < 500 || counts[api.ErrLarge] < 500 {
		t.Errorf("told: %v", counts)
	}
}

func TestP18Examples(t *testing.T) {
	d := idle(3)
	d.Tags = []int{-1, 0, 5}
	d.Rows[0]['a'], d.Rows[1]['b'], d.Rows[2]['b'], d.Rows[2]['a'] = 1, 2, 2, 0
	runs(t, d, "", 0, -1)
	runs(t, d, "a", 1, 0)
	runs(t, d, "ab", 2, 5)
	runs(t, d, "abb", 2, 5)
	runs(t, d, "abba", 0, -1)
	runs(t, d, "abbaa", 1, 0)
	runs(t, d, "b", -1, -1)
	runs(t, d, "ba", -1, -1)
	runs(t, d, "aa", -1, -1)
	runs(t, d, "a\x00b", -1, -1)
	d.Tags[0] = 7
	runs(t, d, "", 0, 7)
	runs(t, d, "b", -1, -1)
}

func TestP18BytesAtTheEdges(t *testing.T) {
	for b := range 256 {
		d := idle(2)
		d.Tags[1] = 3
		d.Rows[0][b] = 1
		for other := range 256 {
			state, tag := -1, -1
			if other == b {
				state, tag = 1, 3
			}
			runs(t, d, string([]byte{byte(other)}), state, tag)
		}
	}
	d := idle(3)
	d.Rows[0][0xc3], d.Rows[1][0xa9] = 1, 2
	runs(t, d, "\xc3\xa9", 2, -1) // bytes, not letters
	runs(t, d, "é", 2, -1)
}

// All automata of two states, and all of three, with the bytes a and b.
func TestP18AllOfFewStates(t *testing.T) {
	for n, longest := range map[int]int{1: 5, 2: 5, 3: 3} {
		texts := textsUpTo(longest, "ab")
		d := idle(n)
		for state := range n {
			d.Tags[state] = state * 9
		}
		for i := range pow(n+1, 2*n) {
			for cell := range 2 * n {
				d.Rows[cell/2]["ab"[cell%2]] = int16(i/pow(n+1, cell)%(n+1)) - 1
			}
			for _, s := range texts {
				state := plainRun(d, s)
				runs(t, d, s, state, plainTag(d, state))
			}
		}
	}
}

// pow is n, k times by itself.
func pow(n, k int) int {
	product := 1
	for range k {
		product *= n
	}
	return product
}

func TestP18SampledTexts(t *testing.T) {
	rng := rand.New(rand.NewSource(2))
	lost := 0
	for range 300 {
		d := wildDfa(rng, 1+rng.Intn(200), 2+rng.Intn(30))
		for range 10 {
			l := make([]byte, rng.Intn(40))
			rng.Read(l)
			s := string(l)
			state := plainRun(d, s)
			runs(t, d, s, state, plainTag(d, state))
			if state == -1 {
				lost++
			}
		}
	}
	if lost < 300 || lost > 2700 {
		t.Errorf("%d texts of 3000 lead nowhere", lost)
	}
}

// A text may be of any length.
func TestP18LongTexts(t *testing.T) {
	for _, n := range []int{1, 2, 7, 199, 200} {
		d := ring(n)
		for _, length := range []int{199, 200, 201, 202, 2000, 2001, 4096, 4097, 1 << 16, 1<<20 + 1} {
			state := length % n
			runs(t, d, strings.Repeat("x", length), state, state%21-1)
		}
	}
	d := ring(3)
	d.Rows[2]['!'] = -1
	long := strings.Repeat("x", 1<<20)
	runs(t, d, "xx!"+long, -1, -1)
	runs(t, d, "xx"+long+"!", (2+1<<20+1)%3, -1+(2+1<<20+1)%3)
	runs(t, d, strings.Repeat("x", 3<<19+2)+"!", -1, -1)
}

// An automaton that is wrong is told whatever the text is.
func TestP18WrongOfAnyText(t *testing.T) {
	for _, s := range []string{"", "x", strings.Repeat("x", 5000)} {
		for _, fault := range faults() {
			d := ring(3)
			fault(&d)
			state, err := dfa.Run(d, s)
			tag, other := dfa.Tag(d, s)
			if state != 0 || tag != 0 || err != api.ErrArg || other != api.ErrArg {
				t.Errorf("of %d bytes: %d, %d; %d, %d", len(s), state, err, tag, other)
			}
		}
		if state, err := dfa.Run(idle(201), s); state != 0 || err != api.ErrLarge {
			t.Errorf("of %d bytes: %d, %d", len(s), state, err)
		}
		if tag, err := dfa.Tag(idle(201), s); tag != 0 || err != api.ErrLarge {
			t.Errorf("of %d bytes: %d, %d", len(s), tag, err)
		}
	}
}

// A state and its tag are told one byte after the other as they are told at once.
func TestP18OneByteMore(t *testing.T) {
	rng := rand.New(rand.NewSource(3))
	d := wildDfa(rng, 200, 1<<20)
	var visited []int
	s, state := "", 0
	for range 3000 {
		b := byte(rng.Intn(256))
		s, state = s+string([]byte{b}), int(d.Rows[state][b])
		if state == -1 {
			break
		}
		runs(t, d, s, state, d.Tags[state])
		visited = append(visited, state)
	}
	slices.Sort(visited)
	if n := len(slices.Compact(visited)); n < 150 {
		t.Errorf("only %d states are come to", n)
	}
}
