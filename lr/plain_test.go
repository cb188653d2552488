package lr_test

import (
	"fmt"
	"math"
	"math/rand"
	"reflect"
	"slices"
	"strconv"
	"strings"
	"testing"

	"pushmill/api"
	"pushmill/cfg"
	"pushmill/items"
	"pushmill/lr"
)

// What follows makes grammars and tables, and reads the chapter otherwise than the program does.

func term(n int) api.Sym { return api.Sym{Kind: api.Term, N: n} }

func non(n int) api.Sym { return api.Sym{Kind: api.Non, N: n} }

func prod(head int, body ...api.Sym) api.Prod { return api.Prod{Head: head, Body: body} }

func grammar(terms, nons int, prods ...api.Prod) api.Grammar {
	return api.Grammar{Terms: terms, Nons: nons, Prods: prods}
}

// left is a list of t0 that grows at its left.
func left() api.Grammar {
	return grammar(1, 1, prod(0, non(0), term(0)), prod(0, term(0)))
}

// brackets are pairs of t0 and t1, one within the other.
func brackets() api.Grammar {
	return grammar(2, 1, prod(0), prod(0, term(0), non(0), term(1)))
}

// must is the grammar of a text.
func must(t *testing.T, s string) api.Grammar {
	t.Helper()
	g, at, err := cfg.Read(s)
	if err != api.OK {
		t.Fatalf("Read(%q): %d %d", s, at, err)
	}
	return g
}

// show tells of a grammar, or of a table, which may be great.
func show(thing any) string {
	s := fmt.Sprint(thing)
	if len(s) > 1500 {
		s = s[:1500] + fmt.Sprintf("... (of %d bytes)", len(s))
	}
	return s
}

func shift(to int) api.Act { return api.Act{Kind: api.AShift, N: to} }

func reduce(by int) api.Act { return api.Act{Kind: api.AReduce, N: by} }

func accept() api.Act { return api.Act{Kind: api.AAccept} }

func nothing() api.Act { return api.Act{} }

func fight(state, col int, a, b api.Act) api.Fight {
	return api.Fight{State: state, Col: col, A: a, B: b}
}

// table is written as a text for each state: its acts (s and a state, r and a production, a, or -), a bar, its next states (or -).
func table(rows ...string) api.Table {
	var t api.Table
	for _, row := range rows {
		acts, next, _ := strings.Cut(row, "|")
		t.Acts = append(t.Acts, nil)
		for _, s := range strings.Fields(acts) {
			n, _ := strconv.Atoi(s[1:])
			last := len(t.Acts) - 1
			t.Acts[last] = append(t.Acts[last], api.Act{Kind: strings.Index("-sra", s[:1]), N: n})
		}
		t.Goto = append(t.Goto, nil)
		for _, s := range strings.Fields(next) {
			n, err := strconv.Atoi(s)
			if err != nil {
				n = -1
			}
			last := len(t.Goto) - 1
			t.Goto[last] = append(t.Goto[last], n)
		}
	}
	return t
}

// blank has so many states, with so many acts that do nothing, and so many nonterminals that lead nowhere.
func blank(states, acts, nons int) api.Table {
	var t api.Table
	for range states {
		t.Acts = append(t.Acts, make([]api.Act, acts))
		t.Goto = append(t.Goto, slices.Repeat([]int{-1}, nons))
	}
	return t
}

// copied is t in new memory.
func copied(t api.Table) api.Table {
	c := api.Table{Acts: slices.Clone(t.Acts), Goto: slices.Clone(t.Goto)}
	for n := range c.Acts {
		c.Acts[n] = slices.Clone(c.Acts[n])
	}
	for n := range c.Goto {
		c.Goto[n] = slices.Clone(c.Goto[n])
	}
	return c
}

// may: may act be done in that state of a at that column?
func may(g api.Grammar, a api.Auto, state, col int, act api.Act) bool {
	has := func(it api.Item) bool { return slices.Contains(a.States[state], it) }
	switch act.Kind {
	case api.AShift:
		return col != g.Terms && a.Next[state][col] == act.N
	case api.AReduce:
		return has(api.Item{Prod: act.N, Dot: len(g.Prods[act.N].Body), Look: col})
	}
	return col == g.Terms && has(api.Item{Prod: len(g.Prods), Dot: 1, Look: g.Terms})
}

// allActs has all that could ever be done, in the order of the chapter.
func allActs(g api.Grammar, states int) []api.Act {
	var l []api.Act
	for n := range states {
		l = append(l, shift(n))
	}
	for n := range g.Prods {
		l = append(l, reduce(n))
	}
	return append(l, accept())
}

// plainMake asks at each place of each act that could be done whether it may be done; the states are those of items.All.
func plainMake(g api.Grammar) (api.Table, []api.Fight, api.Errno) {
	a, err := items.All(g)
	if err != api.OK {
		return api.Table{}, nil, err
	}
	t := blank(len(a.States), g.Terms+1, g.Nons)
	var fights []api.Fight
	for state := range a.States {
		for col := range g.Terms + 1 {
			for _, act := range allActs(g, len(a.States)) {
				switch {
				case !may(g, a, state, col, act):
				case t.Acts[state][col] == nothing():
					t.Acts[state][col] = act
				default:
					fights = append(fights, fight(state, col, t.Acts[state][col], act))
				}
			}
		}
		for n := range g.Nons {
			t.Goto[state][n] = a.Next[state][g.Terms+n]
		}
	}
	return t, fights, api.OK
}

// plainCheck looks each act and each number up among all that may stand there.
func plainCheck(g api.Grammar, t api.Table) api.Errno {
	if err := cfg.Check(g); err != api.OK {
		return err
	}
	states := len(t.Acts)
	if states > 200 {
		return api.ErrLarge
	}
	if states == 0 || len(t.Goto) != states {
		return api.ErrArg
	}
	within, atEnd := map[api.Act]bool{nothing(): true}, map[api.Act]bool{nothing(): true, accept(): true}
	next := map[int]bool{-1: true}
	for n := range states {
		within[shift(n)], next[n] = true, true
	}
	for n := range g.Prods {
		within[reduce(n)], atEnd[reduce(n)] = true, true
	}
	for _, row := range t.Acts {
		wrong := func(act api.Act) bool { return !within[act] }
		if len(row) != g.Terms+1 || slices.ContainsFunc(row[:g.Terms], wrong) || !atEnd[row[g.Terms]] {
			return api.ErrArg
		}
	}
	for _, row := range t.Goto {
		if len(row) != g.Nons || slices.ContainsFunc(row, func(to int) bool { return !next[to] }) {
			return api.ErrArg
		}
	}
	return api.OK
}

// wild is a grammar that is right, with productions no wider than that, and so many of ten symbols terminals.
func wild(rng *rand.Rand, terms, nons, prods, width, often int) api.Grammar {
	g := grammar(terms, nons)
	for range prods {
		p := prod(rng.Intn(nons))
		for range rng.Intn(width + 1) {
			s := non(rng.Intn(nons))
			if terms > 0 && rng.Intn(10) < often {
				s = term(rng.Intn(terms))
			}
			p.Body = append(p.Body, s)
		}
		g.Prods = append(g.Prods, p)
	}
	return g
}

// wildOne is one of any size that there may be.
func wildOne(rng *rand.Rand) api.Grammar {
	return wild(rng, rng.Intn(31), 1+rng.Intn(20), rng.Intn(41), rng.Intn(9), rng.Intn(10))
}

// forked has a state for each of its symbols, and two more: its productions differ from the first symbol on.
func forked(count int) api.Grammar {
	g := grammar(30, 1)
	for n := 0; count > 0; n++ {
		body := []api.Sym{term(n)}
		for len(body) < min(8, count) {
			body = append(body, term(len(body)))
		}
		g.Prods = append(g.Prods, prod(0, body...))
		count -= len(body)
	}
	return g
}

// ago has t0 at so many places ahead of the end: there is a state for each choice of which symbol came there.
func ago(places int) api.Grammar {
	g := grammar(2, places+1, prod(0, term(0), non(0)), prod(0, term(1), non(0)), prod(0, term(0), non(1)))
	for n := 1; n < places; n++ {
		g.Prods = append(g.Prods, prod(n, term(0), non(n+1)), prod(n, term(1), non(n+1)))
	}
	g.Prods = append(g.Prods, prod(places))
	return g
}

// heavy has states with thousands of items, and hundreds of Fights: of each production each place with each Look.
func heavy() api.Grammar {
	g := grammar(30, 1)
	for n := range 30 {
		g.Prods = append(g.Prods, prod(0, append(slices.Repeat([]api.Sym{non(0)}, 7), term(n))...))
	}
	g.Prods = append(g.Prods, slices.Repeat([]api.Prod{prod(0, slices.Repeat([]api.Sym{non(0)}, 8)...)}, 9)...)
	g.Prods = append(g.Prods, prod(0))
	return g
}

// edges are numbers at both sides of the bounds.
func edges() []int {
	return []int{math.MinInt, -1 << 32, -2, -1, 0, 1, 2, 3, 4, 7, 8, 9, 19, 20, 21, 29, 30, 31, 39, 40, 41, 199, 200, 201, 255, 256, 1<<32 - 1, 1 << 32, 1<<32 + 1, math.MaxInt}
}

// symbols has the terminals, then the nonterminals.
func symbols(terms, nons int) []api.Sym {
	var l []api.Sym
	for n := range terms {
		l = append(l, term(n))
	}
	for n := range nons {
		l = append(l, non(n))
	}
	return l
}

// small hands out all grammars with so many terminals and nonterminals that have up to so many productions of up to so many symbols.
func small(terms, nons, prods, width int, each func(g api.Grammar)) {
	bodies := smallBodies(terms, nons, width)
	var add func(g api.Grammar)
	add = func(g api.Grammar) {
		each(g)
		if len(g.Prods) == prods {
			return
		}
		for head := range nons {
			for _, body := range bodies {
				add(grammar(terms, nons, append(slices.Clone(g.Prods), prod(head, body...))...))
			}
		}
	}
	add(grammar(terms, nons))
}

// smallBodies has all lists of up to so many symbols.
func smallBodies(terms, nons, width int) [][]api.Sym {
	bodies := [][]api.Sym{nil}
	for from := 0; width > 0; width-- {
		to := len(bodies)
		for _, body := range bodies[from:to] {
			for _, s := range symbols(terms, nons) {
				bodies = append(bodies, append(slices.Clone(body), s))
			}
		}
		from = to
	}
	return bodies
}

// sameTable: are these the same acts and numbers?
func sameTable(a, b api.Table) bool {
	return slices.EqualFunc(a.Acts, b.Acts, slices.Equal) && slices.EqualFunc(a.Goto, b.Goto, slices.Equal)
}

// makes: has g that table, and these Fights?
func makes(t *testing.T, g api.Grammar, want api.Table, fights []api.Fight) {
	t.Helper()
	got, l, err := lr.Make(g)
	if err != api.OK || !sameTable(got, want) {
		t.Fatalf("Make(%s): %s %d, not %s", show(g), show(got), err, show(want))
	}
	if !slices.Equal(l, fights) {
		t.Fatalf("Make(%s): the Fights %s, not %s", show(g), show(l), show(fights))
	}
}

// makeFails: is g refused with this error, and nothing told beside it?
func makeFails(t *testing.T, g api.Grammar, want api.Errno) {
	t.Helper()
	if got, l, err := lr.Make(g); !reflect.DeepEqual(got, api.Table{}) || l != nil || err != want {
		t.Fatalf("Make(%s): %s %s %d, not %d", show(g), show(got), show(l), err, want)
	}
}

// checks: does Check tell that of a table?
func checks(t *testing.T, g api.Grammar, tab api.Table, want api.Errno) {
	t.Helper()
	if err := lr.Check(g, tab); err != want {
		t.Fatalf("Check(%s, %s): %d, not %d", show(g), show(tab), err, want)
	}
}

// plainly: does Make answer as the second reading does?
func plainly(t *testing.T, g api.Grammar) (api.Table, []api.Fight, api.Errno) {
	t.Helper()
	want, fights, err := plainMake(g)
	if err != api.OK {
		makeFails(t, g, err)
	} else {
		makes(t, g, want, fights)
		checks(t, g, want, api.OK)
	}
	return want, fights, err
}

// refused: do both calls refuse this grammar with that error, whatever is beside it?
func refused(t *testing.T, g api.Grammar, want api.Errno) {
	t.Helper()
	makeFails(t, g, want)
	for _, tab := range []api.Table{
		{}, blank(1, 1, 1), blank(1, 2, 1), blank(200, 31, 20), blank(201, 31, 20), table("s7 r9 | 5"), {Goto: make([][]int, 300)},
	} {
		checks(t, g, tab, want)
	}
}
