package build_test

import (
	"fmt"
	"math"
	"math/rand"
	"slices"
	"strconv"
	"strings"
	"testing"

	"pushmill/api"
	"pushmill/build"
	"pushmill/cfg"
	"pushmill/lr"
)

// What follows makes grammars, tables and stackers, and reads the chapter otherwise than the program does.

func term(n int) api.Sym { return api.Sym{Kind: api.Term, N: n} }

func non(n int) api.Sym { return api.Sym{Kind: api.Non, N: n} }

func prod(head int, body ...api.Sym) api.Prod { return api.Prod{Head: head, Body: body} }

func grammar(terms, nons int, prods ...api.Prod) api.Grammar {
	return api.Grammar{Terms: terms, Nons: nons, Prods: prods}
}

func shift(to int) api.Act { return api.Act{Kind: api.AShift, N: to} }

func reduce(by int) api.Act { return api.Act{Kind: api.AReduce, N: by} }

func accept() api.Act { return api.Act{Kind: api.AAccept} }

func nothing() api.Act { return api.Act{} }

// table is written as a text for each state: its acts (s and a state, r and a production, a, or -), a bar, its next states (or -).
func table(rows ...string) api.Table {
	var t api.Table
	for _, row := range rows {
		acts, next, _ := strings.Cut(row, "|")
		t.Acts = append(t.Acts, nil)
		for _, s := range strings.Fields(acts) {
			n, _ := strconv.Atoi(s[1:])
			last := len(t.Acts) - 1
			t.Acts[last] = append(t.Acts[last], api.Act{Kind: strings.Index("-sra", s[:1]), N: n})
		}
		t.Goto = append(t.Goto, nil)
		for _, s := range strings.Fields(next) {
			n, err := strconv.Atoi(s)
			if err != nil {
				n = -1
			}
			last := len(t.Goto) - 1
			t.Goto[last] = append(t.Goto[last], n)
		}
	}
	return t
}

// at is a stacker that has come through these states.
func at(seen int, states ...int) api.Stacker {
	return api.Stacker{States: slices.Clone(states), Seen: seen}
}

func had(n int) api.Event { return api.Event{Kind: api.EToken, N: n} }

func built(n int) api.Event { return api.Event{Kind: api.EReduce, N: n} }

// broken is a stacker that has come to this error.
func broken(seen int, err api.Errno) api.Stacker { return api.Stacker{Seen: seen, Over: err} }

// done is a stacker that has come to its end.
func done(seen int) api.Stacker { return api.Stacker{Seen: seen, Done: true} }

// brackets are pairs of t0 and t1, one within the other.
func brackets() api.Grammar {
	return grammar(2, 1, prod(0), prod(0, term(0), non(0), term(1)))
}

// bracketsTable is that of lr.Make.
func bracketsTable() api.Table {
	return table("s1 - r0 | 2", "s3 r0 - | 4", "- - a | -", "s3 r0 - | 5", "- s6 - | -", "- s7 - | -", "- - r1 | -", "- r1 - | -")
}

// must is the grammar of a text.
func must(t *testing.T, s string) api.Grammar {
	t.Helper()
	g, line, err := cfg.Read(s)
	if err != api.OK {
		t.Fatalf("Read(%q): %d %d", s, line, err)
	}
	return g
}

// tableOf is the one that g has without a Fight.
func tableOf(t *testing.T, g api.Grammar) api.Table {
	t.Helper()
	tab, fights, err := lr.Make(g)
	if len(fights) > 0 || err != api.OK {
		t.Fatalf("Make(%s): %v %d", show(g), fights, err)
	}
	return tab
}

// show tells of a thing, which may be great.
func show(thing any) string {
	s := fmt.Sprint(thing)
	if len(s) > 1500 {
		s = s[:1500] + fmt.Sprintf("... (of %d bytes)", len(s))
	}
	return s
}

// cell is a state with those that lie below it.
type cell struct {
	state int
	below *cell
}

// pile lays states one on the other.
func pile(states []int) *cell {
	var top *cell
	for _, n := range states {
		top = &cell{n, top}
	}
	return top
}

// states are those of a pile, the present one last.
func (c *cell) states() []int {
	var l []int
	for ; c != nil; c = c.below {
		l = append(l, c.state)
	}
	slices.Reverse(l)
	return l
}

// step is an act that was done: its event (to accept has none), and how many states there were behind it.
type step struct {
	event api.Event
	size  int
}

// plainSteps goes on as if there were no bounds, but for a little more than these, and tells the states that it comes to; it is stuck
// where no act can be done.
func plainSteps(g api.Grammar, t api.Table, s api.Stacker, col int) ([]step, *cell, bool) {
	var steps []step
	top, size := pile(s.States), len(s.States)
	for len(steps) < 2003 && size < 70 {
		act := t.Acts[top.state][col]
		if act == nothing() {
			return steps, nil, true
		}
		if act == accept() {
			return append(steps, step{size: size}), nil, false
		}
		if act == shift(act.N) {
			return append(steps, step{had(s.Seen), size + 1}), &cell{act.N, top}, false
		}
		under := top
		for range g.Prods[act.N].Body {
			under, size = under.below, size-1
			if under == nil {
				return steps, nil, true
			}
		}
		next := t.Goto[under.state][g.Prods[act.N].Head]
		if next < 0 {
			return steps, nil, true
		}
		top, size = &cell{next, under}, size+1
		steps = append(steps, step{built(act.N), size})
	}
	return steps, top, false
}

// judged is what some steps come to: their events, or the first thing that went wrong.
func judged(steps []step, stuck bool) ([]api.Event, api.Errno) {
	var l []api.Event
	for i, s := range steps {
		if i == 2000 || s.size > 60 {
			return nil, api.ErrStack
		}
		if s.event != (api.Event{}) {
			l = append(l, s.event)
		}
	}
	if stuck {
		return nil, api.ErrToken
	}
	return l, api.OK
}

// plainWrong is what is wrong ahead of any act, a terminal that comes being right.
func plainWrong(g api.Grammar, t api.Table, s api.Stacker) api.Errno {
	if err := lr.Check(g, t); err != api.OK {
		return err
	}
	over := s.Done || s.Over != 0
	if s.Seen <= -1 || s.Seen >= 1<<40+1 || len(s.States) >= 61 || len(s.States) == 0 && !over {
		return api.ErrArg
	}
	if len(s.States) > 0 && (slices.Min(s.States) < 0 || slices.Max(s.States) > len(t.Goto)-1) {
		return api.ErrArg
	}
	if over {
		return api.ErrOver
	}
	return api.OK
}

// plainPush is what Push must answer.
func plainPush(g api.Grammar, t api.Table, s api.Stacker, n int) (api.Stacker, []api.Event, api.Errno) {
	err := plainWrong(g, t, s)
	if (err == api.OK || err == api.ErrOver) && (n < 0 || n >= g.Terms) {
		err = api.ErrArg
	}
	if err != api.OK {
		return s, nil, err
	}
	steps, top, stuck := plainSteps(g, t, s, n)
	l, err := judged(steps, stuck)
	if err != api.OK {
		return broken(s.Seen, err), nil, err
	}
	return at(s.Seen+1, top.states()...), l, api.OK
}

// plainEnd is what End must answer.
func plainEnd(g api.Grammar, t api.Table, s api.Stacker) (api.Stacker, []api.Event, api.Errno) {
	if err := plainWrong(g, t, s); err != api.OK {
		return s, nil, err
	}
	steps, _, stuck := plainSteps(g, t, s, g.Terms)
	l, err := judged(steps, stuck)
	if err != api.OK {
		return broken(s.Seen, err), nil, err
	}
	return done(s.Seen), l, api.OK
}

// symbols has the terminals, then the nonterminals.
func symbols(terms, nons int) []api.Sym {
	var l []api.Sym
	for n := range terms {
		l = append(l, term(n))
	}
	for n := range nons {
		l = append(l, non(n))
	}
	return l
}

// lists has all lists of up to so many of these.
func lists[T any](of []T, most int) [][]T {
	l := [][]T{nil}
	for from := 0; most > 0; most-- {
		to := len(l)
		for _, list := range l[from:to] {
			for _, one := range of {
				l = append(l, append(slices.Clone(list), one))
			}
		}
		from = to
	}
	return l
}

// below has the numbers from 0 on that are less than n.
func below(n int) []int {
	var l []int
	for i := range n {
		l = append(l, i)
	}
	return l
}

// small hands out all grammars with so many terminals and nonterminals that have up to so many productions of up to so many symbols.
func small(terms, nons, prods, width int, each func(g api.Grammar)) {
	var all []api.Prod
	for head := range nons {
		for _, body := range lists(symbols(terms, nons), width) {
			all = append(all, prod(head, body...))
		}
	}
	for _, l := range lists(all, prods) {
		each(grammar(terms, nons, l...))
	}
}

// shapes hands out as small does, but of all Bodies with as many symbols only one: a stacker by a table does not see which they are.
func shapes(terms, nons, prods, width int, each func(g api.Grammar)) {
	var all []api.Prod
	for head := range nons {
		for n := range width + 1 {
			all = append(all, prod(head, slices.Repeat([]api.Sym{non(0)}, n)...))
		}
	}
	for _, l := range lists(all, prods) {
		each(grammar(terms, nons, l...))
	}
}

// mayStand has the acts that may stand in a table at a terminal, or at the end.
func mayStand(g api.Grammar, states int, atEnd bool) []api.Act {
	l := []api.Act{nothing()}
	for n := range g.Prods {
		l = append(l, reduce(n))
	}
	if atEnd {
		return append(l, accept())
	}
	for n := range states {
		l = append(l, shift(n))
	}
	return l
}

// allTables hands out all tables of g with so many states.
func allTables(g api.Grammar, states int, each func(t api.Table)) {
	var t api.Table
	for range states {
		t.Acts = append(t.Acts, make([]api.Act, g.Terms+1))
		t.Goto = append(t.Goto, make([]int, g.Nons))
	}
	width := g.Terms + 1 + g.Nons
	inside, last := mayStand(g, states, false), mayStand(g, states, true)
	var fill func(place int)
	fill = func(place int) {
		row, col := place/width, place%width
		switch {
		case row == states:
			each(t)
		case col > g.Terms:
			for to := -1; to < states; to++ {
				t.Goto[row][col-g.Terms-1] = to
				fill(place + 1)
			}
		default:
			may := inside
			if col == g.Terms {
				may = last
			}
			for _, act := range may {
				t.Acts[row][col] = act
				fill(place + 1)
			}
		}
	}
	fill(0)
}

// someTable is any of g with so many states, with about so many of ten places empty, and of the others about so many of ten reduces.
func someTable(rng *rand.Rand, g api.Grammar, states, empty, reduces int) api.Table {
	var t api.Table
	for range states {
		acts, next := make([]api.Act, g.Terms+1), make([]int, g.Nons)
		for col := range acts {
			switch {
			case rng.Intn(10) < empty:
			case len(g.Prods) > 0 && rng.Intn(10) < reduces:
				acts[col] = reduce(rng.Intn(len(g.Prods)))
			case col == g.Terms:
				acts[col] = accept()
			default:
				acts[col] = shift(rng.Intn(states))
			}
		}
		for n := range next {
			next[n] = rng.Intn(states)
			if rng.Intn(10) < empty {
				next[n] = -1
			}
		}
		t.Acts, t.Goto = append(t.Acts, acts), append(t.Goto, next)
	}
	return t
}

// wild is a grammar that is right, with productions no wider than that, and so many of ten symbols terminals.
func wild(rng *rand.Rand, terms, nons, prods, width, often int) api.Grammar {
	g := grammar(terms, nons)
	for range prods {
		p := prod(rng.Intn(nons))
		for range rng.Intn(width + 1) {
			s := non(rng.Intn(nons))
			if terms > 0 && rng.Intn(10) < often {
				s = term(rng.Intn(terms))
			}
			p.Body = append(p.Body, s)
		}
		g.Prods = append(g.Prods, p)
	}
	return g
}

// wildOne is one of any size that there may be.
func wildOne(rng *rand.Rand) api.Grammar {
	return wild(rng, rng.Intn(31), 1+rng.Intn(20), rng.Intn(41), rng.Intn(9), rng.Intn(10))
}

// someStacker is one of a table with so many states that has come through up to so many.
func someStacker(rng *rand.Rand, states, most int) api.Stacker {
	s := api.Stacker{Seen: rng.Intn(1 << 41)}
	if rng.Intn(4) > 0 {
		s.Seen = rng.Intn(5)
	}
	for range 1 + rng.Intn(most) {
		s.States = append(s.States, rng.Intn(states))
	}
	return s
}

// edges are numbers at both sides of the bounds.
func edges() []int {
	return []int{math.MinInt, -1 << 40, -1 << 32, -2, -1, 0, 1, 2, 3, 7, 8, 9, 19, 20, 21, 29, 30, 31, 39, 40, 41, 60, 61, 199, 200, 201, 255, 256, 1<<32 - 1, 1 << 32, 1<<32 + 1, 1<<40 - 1, 1 << 40, 1<<40 + 1, math.MaxInt}
}

// sameStacker: are these the same?
func sameStacker(a, b api.Stacker) bool {
	return slices.Equal(a.States, b.States) && a.Seen == b.Seen && a.Over == b.Over && a.Done == b.Done
}

// pushes: is that what Push answers?
func pushes(t *testing.T, g api.Grammar, tab api.Table, s api.Stacker, n int, want api.Stacker, events []api.Event, wrong api.Errno) {
	t.Helper()
	d, l, err := build.Push(g, tab, s, n)
	if !sameStacker(d, want) || !slices.Equal(l, events) || err != wrong {
		t.Fatalf("Push(%s, %s, %s, %d): %s %s %d, not %s %s %d", show(g), show(tab), show(s), n, show(d), show(l), err, show(want), show(events), wrong)
	}
}

// ends: is that what End answers?
func ends(t *testing.T, g api.Grammar, tab api.Table, s api.Stacker, want api.Stacker, events []api.Event, wrong api.Errno) {
	t.Helper()
	d, l, err := build.End(g, tab, s)
	if !sameStacker(d, want) || !slices.Equal(l, events) || err != wrong {
		t.Fatalf("End(%s, %s, %s): %s %s %d, not %s %s %d", show(g), show(tab), show(s), show(d), show(l), err, show(want), show(events), wrong)
	}
}

// pushesPlainly: does Push answer as the second reading does? It tells which stacker is the next one.
func pushesPlainly(t *testing.T, g api.Grammar, tab api.Table, s api.Stacker, n int) (api.Stacker, api.Errno) {
	t.Helper()
	want, events, err := plainPush(g, tab, s, n)
	pushes(t, g, tab, s, n, want, events, err)
	return want, err
}

// endsPlainly: does End answer as the second reading does?
func endsPlainly(t *testing.T, g api.Grammar, tab api.Table, s api.Stacker) api.Errno {
	t.Helper()
	want, events, err := plainEnd(g, tab, s)
	ends(t, g, tab, s, want, events, err)
	return err
}

// refused: do both calls refuse that with this error, and tell the stacker as it was?
func refused(t *testing.T, g api.Grammar, tab api.Table, s api.Stacker, n int, want api.Errno) {
	t.Helper()
	pushes(t, g, tab, s, n, s, nil, want)
	ends(t, g, tab, s, s, nil, want)
}
