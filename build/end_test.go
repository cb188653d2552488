package build_test

import (
	"math/rand"
	"slices"
	"testing"

	"pushmill/api"
	"pushmill/build"
)

func TestP49Brackets(t *testing.T) {
	g, tab := brackets(), bracketsTable()
	ends(t, g, tab, build.Begin(), done(0), []api.Event{built(0)}, api.OK)
	ends(t, g, tab, at(2, 0, 1, 4, 6), done(2), []api.Event{built(1)}, api.OK)
	ends(t, g, tab, at(4, 0, 2), done(4), nil, api.OK)
	ends(t, g, tab, at(1, 0, 1), broken(1, api.ErrToken), nil, api.ErrToken)
	ends(t, g, tab, at(3, 0, 1, 3, 5, 7), broken(3, api.ErrToken), nil, api.ErrToken)
	refused(t, g, tab, done(4), 0, api.ErrOver)
	refused(t, g, tab, broken(4, api.ErrToken), 0, api.ErrOver)
}

func TestP49KnownActs(t *testing.T) {
	g, tab := mixed(t)
	type list = []api.Event
	for _, one := range []struct {
		states []int
		events list
		err    api.Errno
	}{
		// It is accepted wherever the table says so, whatever lies below.
		{[]int{2}, nil, 0},
		{[]int{3}, nil, 0},
		{[]int{1, 4, 3}, nil, 0},
		{slices.Repeat([]int{3}, 60), nil, 0},
		{[]int{0}, list{built(0)}, 0},
		{[]int{0, 1, 4}, list{built(2)}, 0},
		{[]int{3, 1, 4}, list{built(2), built(0)}, 0},
		{[]int{1}, nil, api.ErrToken},
		{[]int{0, 2, 1}, nil, api.ErrToken},
		{[]int{0, 4}, nil, api.ErrToken},
		{[]int{4}, nil, api.ErrToken},
		{[]int{4, 1, 4}, nil, api.ErrToken},
		{[]int{2, 0, 4}, nil, api.ErrToken},
		{append(make([]int, 58), 0), list{built(0)}, 0},
		{append(make([]int, 59), 0), nil, api.ErrStack},
		{append(make([]int, 57), 3, 1, 4), list{built(2), built(0)}, 0},
	} {
		want := done(5)
		if one.err != api.OK {
			want = broken(5, one.err)
		}
		ends(t, g, tab, at(5, one.states...), want, one.events, one.err)
		endsPlainly(t, g, tab, at(5, one.states...))
	}
}

// What stands at the end counts, and what stands at the terminals does not.
func TestP49ColumnOfTheEnd(t *testing.T) {
	for _, terms := range []int{0, 1, 2, 30} {
		g := grammar(terms, 1, prod(0), prod(0))
		fill := func(act, atEnd api.Act) api.Table {
			acts := append(slices.Repeat([]api.Act{act}, terms), atEnd)
			last := append(make([]api.Act, terms), accept())
			return api.Table{Acts: [][]api.Act{acts, last}, Goto: [][]int{{1}, {-1}}}
		}
		ends(t, g, fill(shift(0), reduce(1)), build.Begin(), done(0), []api.Event{built(1)}, api.OK)
		ends(t, g, fill(reduce(0), reduce(1)), build.Begin(), done(0), []api.Event{built(1)}, api.OK)
		ends(t, g, fill(reduce(0), accept()), build.Begin(), done(0), nil, api.OK)
		ends(t, g, fill(reduce(0), nothing()), build.Begin(), broken(0, api.ErrToken), nil, api.ErrToken)
		ends(t, g, fill(shift(0), nothing()), build.Begin(), broken(0, api.ErrToken), nil, api.ErrToken)
	}
}

// There may come to be 60 states, not more.
func TestP49StatesBound(t *testing.T) {
	accepts, stays, stuck := table("- r0 | 1", "- a | -"), table("- r0 | 1", "- - | -"), table("- r0 | -", "- a | -")
	for width := range 9 {
		g := grammar(1, 1, prod(0, slices.Repeat([]api.Sym{term(0)}, width)...))
		for n := 1; n <= 60; n++ {
			s := at(2, make([]int, n)...)
			holds(t, s, endsPlainly(t, g, accepts, s), width >= n, n-width+1 > 60)
			holds(t, s, endsPlainly(t, g, stays, s), width > 0 || n < 60, n+1 > 60)
			holds(t, s, endsPlainly(t, g, stuck, s), true, false)
		}
	}
}

// 2000 acts may be done at the end; to accept is one of them.
func TestP49ActsBound(t *testing.T) {
	for reduces := 1980; reduces <= 2020; reduces++ {
		g := reducing(reduces, non(11))
		tab := tableOf(t, g)
		s, l, err := build.End(g, tab, build.Begin())
		holds(t, build.Begin(), err, false, reduces+1+1 > 2000)
		if err == api.OK && (len(l) != reduces+1 || l[reduces] != built(0) || !sameStacker(s, done(0))) {
			t.Errorf("%d reduces: %v, %d events", reduces, s, len(l))
		}
		endsPlainly(t, g, tab, build.Begin())
		// Where a token must come, that is wrong first as long as no more than 2000 acts have been done.
		for _, acts := range tab.Acts {
			if acts[1] == accept() {
				acts[1] = nothing()
			}
		}
		holds(t, build.Begin(), endsPlainly(t, g, tab, build.Begin()), reduces+1 <= 2000, true)
	}
}

// At each token, and at the end, the acts are counted anew.
func TestP49ActsAreOfOneToken(t *testing.T) {
	g := reducing(1998, non(11), term(0), non(11), term(0), non(11))
	tab := tableOf(t, g)
	s := build.Begin()
	for i := range 2 {
		d, l, err := build.Push(g, tab, s, 0)
		if len(l) != 1999 || l[1998] != had(i) || d.Seen != i+1 || err != api.OK {
			t.Fatalf("%v: %v, %d events, %d", s, d, len(l), err)
		}
		s = d
	}
	if d, l, err := build.End(g, tab, s); !sameStacker(d, done(2)) || len(l) != 1999 || err != api.OK {
		t.Errorf("%v: %v, %d events, %d", s, d, len(l), err)
	}
}

func TestP49Samples(t *testing.T) {
	rng := rand.New(rand.NewSource(49))
	told := map[api.Errno]int{}
	for range 4000 {
		g := wild(rng, rng.Intn(5), 1+rng.Intn(20), rng.Intn(41), rng.Intn(9), rng.Intn(3))
		states := 1 + rng.Intn(1+rng.Intn(200))
		tab := someTable(rng, g, states, rng.Intn(3)*rng.Intn(3), rng.Intn(11))
		for range 10 {
			s := someStacker(rng, states, 1+rng.Intn(60))
			told[endsPlainly(t, g, tab, s)]++
		}
	}
	for _, err := range []api.Errno{api.OK, api.ErrArg, api.ErrToken, api.ErrStack} {
		if told[err] < 1000 {
			t.Errorf("told: %v", told)
		}
	}
}
