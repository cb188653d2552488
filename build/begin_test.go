package build_test

import (
	"math"
	"reflect"
	"slices"
	"testing"

	"pushmill/api"
	"pushmill/build"
)

func TestP47Begin(t *testing.T) {
	want := api.Stacker{States: []int{0}, Seen: 0, Over: 0, Done: false}
	if s := build.Begin(); !reflect.DeepEqual(s, want) {
		t.Errorf("Begin: %v", s)
	}
}

// wrong is a grammar and a table that lr.Check refuses.
type wrong struct {
	g   api.Grammar
	tab api.Table
}

// wrongTables are some of these, by lr.Check's error.
func wrongTables() map[api.Errno][]wrong {
	wide := grammar(2, 1, prod(0), prod(0, slices.Repeat([]api.Sym{term(0)}, 9)...))
	right, one := bracketsTable(), brackets()
	large := api.Table{Acts: slices.Repeat([][]api.Act{{nothing(), nothing(), nothing()}}, 201), Goto: slices.Repeat([][]int{{-1}}, 201)}
	uneven := api.Table{Acts: right.Acts, Goto: right.Goto[:7]}
	return map[api.Errno][]wrong{
		api.ErrLarge: {{wide, right}, {grammar(2, 1, slices.Repeat([]api.Prod{prod(0)}, 41)...), right}, {one, large}},
		api.ErrArg: {
			{grammar(2, 0), api.Table{}}, {grammar(-1, 1), right}, {grammar(31, 1), right}, {grammar(2, 21), right},
			{grammar(2, 1, prod(0), prod(1)), right}, {grammar(2, 1, prod(0), prod(0, term(2))), right},
			{one, api.Table{}}, {one, uneven}, {one, table("- - | -")}, {one, table("- - - - | -")}, {one, table("- - - | - -")},
			{one, table("s1 - - | -")}, {one, table("- - s0 | -")}, {one, table("r2 - - | -")}, {one, table("- a - | -")},
			{one, table("- - a1 | -")}, {one, table("- - - | 1")}, {one, table("- - - | -2")},
		},
	}
}

func TestP47TableErrorComesFirst(t *testing.T) {
	stackers := []api.Stacker{
		build.Begin(), {}, {Over: api.ErrToken}, {Done: true}, at(-1, 0), at(3, 77), at(0, -1),
		{States: make([]int, 61), Seen: 7, Over: api.ErrStack, Done: true},
	}
	for err, l := range wrongTables() {
		for _, one := range l {
			for _, s := range stackers {
				for _, n := range []int{-1, 0, 1, 2} {
					refused(t, one.g, one.tab, s, n, err)
				}
			}
		}
	}
}

// waiting is a grammar, and a table of it with so many states, all of which have t0, and accept at the end.
func waiting(states int) (api.Grammar, api.Table) {
	var tab api.Table
	for n := range states {
		tab.Acts = append(tab.Acts, []api.Act{shift(n), nothing(), accept()})
		tab.Goto = append(tab.Goto, []int{-1})
	}
	return brackets(), tab
}

func TestP47StatesThatAreThere(t *testing.T) {
	for _, states := range []int{1, 2, 3, 59, 60, 61, 199, 200} {
		g, tab := waiting(states)
		for _, n := range append(edges(), states-1, states, states+1) {
			for _, l := range [][]int{{n}, {n, 0}, {0, n}, {0, n, 0}, append(make([]int, 58), n)} {
				s := at(5, l...)
				if n < 0 || n >= states {
					refused(t, g, tab, s, 0, api.ErrArg)
					continue
				}
				pushes(t, g, tab, s, 0, at(6, append(l, l[len(l)-1])...), []api.Event{had(5)}, api.OK)
				ends(t, g, tab, s, done(5), nil, api.OK)
			}
		}
	}
}

// Without a state there is none to go on from.
func TestP47NoStates(t *testing.T) {
	g, tab := waiting(1)
	for _, states := range [][]int{nil, {}} {
		for _, seen := range []int{0, 7, 1 << 40} {
			refused(t, g, tab, api.Stacker{States: states, Seen: seen}, 0, api.ErrArg)
			refused(t, g, tab, api.Stacker{States: states, Seen: seen, Done: true}, 0, api.ErrOver)
			refused(t, g, tab, api.Stacker{States: states, Seen: seen, Over: api.ErrToken}, 0, api.ErrOver)
		}
	}
}

func TestP47NotTooManyStates(t *testing.T) {
	g, tab := waiting(2)
	for _, n := range []int{1, 2, 58, 59, 60, 61, 62, 100, 1 << 16} {
		s := at(0, slices.Repeat([]int{1}, n)...)
		if n > 60 {
			refused(t, g, tab, s, 0, api.ErrArg)
			continue
		}
		ends(t, g, tab, s, done(0), nil, api.OK)
		if n < 60 {
			pushes(t, g, tab, s, 0, at(1, append(s.States, 1)...), []api.Event{had(0)}, api.OK)
		}
	}
}

func TestP47SeenHasBounds(t *testing.T) {
	g, tab := brackets(), bracketsTable()
	for _, seen := range edges() {
		s := at(seen, 0)
		if seen < 0 || seen > 1<<40 {
			refused(t, g, tab, s, 0, api.ErrArg)
			continue
		}
		pushes(t, g, tab, s, 0, at(seen+1, 0, 1), []api.Event{had(seen)}, api.OK)
		ends(t, g, tab, s, done(seen), []api.Event{built(0)}, api.OK)
	}
}

func TestP47WrongTerminal(t *testing.T) {
	for _, terms := range []int{0, 1, 2, 30} {
		g := grammar(terms, 1, prod(0))
		tab := api.Table{Acts: [][]api.Act{append(slices.Repeat([]api.Act{shift(0)}, terms), accept())}, Goto: [][]int{{-1}}}
		for _, n := range edges() {
			if n < 0 || n >= terms {
				pushes(t, g, tab, build.Begin(), n, build.Begin(), nil, api.ErrArg)
				pushes(t, g, tab, at(7, 0, 0), n, at(7, 0, 0), nil, api.ErrArg)
			} else {
				pushes(t, g, tab, build.Begin(), n, at(1, 0, 0), []api.Event{had(0)}, api.OK)
				pushes(t, g, tab, at(7, 0, 0), n, at(8, 0, 0, 0), []api.Event{had(7)}, api.OK)
			}
		}
		// End has no terminal, and so takes what only a terminal could make wrong.
		ends(t, g, tab, build.Begin(), done(0), nil, api.OK)
	}
}

// What is over stays as it was told.
func TestP47OverOrDone(t *testing.T) {
	g, tab := brackets(), bracketsTable()
	for _, err := range []api.Errno{math.MinInt, -1, 0, 1, 2, 13, 14, 15, 18, 19, math.MaxInt} {
		for _, isDone := range []bool{false, true} {
			if err == api.OK && !isDone {
				continue
			}
			for _, states := range [][]int{nil, {0}, {0, 1}, {2}, make([]int, 60)} {
				for _, seen := range []int{0, 7, 1 << 40} {
					refused(t, g, tab, api.Stacker{States: states, Seen: seen, Over: err, Done: isDone}, 0, api.ErrOver)
				}
			}
		}
	}
}

// An error of an argument is told even of a stacker that is over.
func TestP47WrongArgumentComesAheadOfOver(t *testing.T) {
	g, tab := brackets(), bracketsTable()
	for _, s := range []api.Stacker{{Over: api.ErrToken}, {Over: api.ErrOver}, {Done: true}, {Over: api.ErrStack, Done: true}} {
		for _, n := range []int{-1, 2, 1 << 40, math.MinInt} {
			pushes(t, g, tab, s, n, s, nil, api.ErrArg)
		}
		refused(t, g, tab, s, 0, api.ErrOver)
		long, high, low, early, late := s, s, s, s, s
		long.States = make([]int, 61)
		high.States = []int{0, 8, 1}
		low.States = []int{-1}
		early.Seen, late.Seen = -1, 1<<40+1
		for _, d := range []api.Stacker{long, high, low, early, late} {
			refused(t, g, tab, d, 0, api.ErrArg)
			refused(t, g, tab, d, 1, api.ErrArg)
		}
	}
}
