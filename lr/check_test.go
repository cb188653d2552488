package lr_test

import (
	"math/rand"
	"slices"
	"testing"

	"pushmill/api"
	"pushmill/lr"
)

func TestP38KnownTables(t *testing.T) {
	g := left()
	two := must(t, "1 2\n0: n1\n1: t0\n1:\n")
	for _, c := range []struct {
		g    api.Grammar
		tab  api.Table
		want api.Errno
	}{
		{g, table("s1 - | 2", "r1 r1 | -", "s3 a | -", "r0 r0 | -"), api.OK},
		// It need not be the table of Make.
		{g, table("- - | -"), api.OK},
		{g, table("s0 a | 0"), api.OK},
		{g, table("r1 r0 | 1", "s1 r1 | 0"), api.OK},
		{g, table(), api.ErrArg},
		{g, api.Table{Acts: [][]api.Act{}, Goto: [][]int{}}, api.ErrArg},
		// Goto must have as many elements as Acts.
		{g, api.Table{Goto: [][]int{{-1}}}, api.ErrArg},
		{g, api.Table{Acts: make([][]api.Act, 1)}, api.ErrArg},
		{g, api.Table{Acts: table("- - | -").Acts}, api.ErrArg},
		{g, api.Table{Acts: table("- - | -").Acts, Goto: [][]int{{-1}, {-1}}}, api.ErrArg},
		{g, api.Table{Acts: table("- - |", "- - |").Acts, Goto: [][]int{{-1}}}, api.ErrArg},
		{g, table("- | -"), api.ErrArg},
		{g, table("- - - | -"), api.ErrArg},
		{g, table("| -"), api.ErrArg},
		{g, table("- - |"), api.ErrArg},
		{g, table("- - | - -"), api.ErrArg},
		{g, table("- - | -", "- | -"), api.ErrArg},
		{g, table("- - | -", "- - |"), api.ErrArg},
		{g, table("- - - | -", "- | -"), api.ErrArg}, // as many in all
		{g, table("- - | - -", "- - |"), api.ErrArg},
		// A shift: to a state that is there, not at the end.
		{g, table("s1 - | -"), api.ErrArg},
		{g, table("s-1 - | -"), api.ErrArg},
		{g, table("s1 - | -", "s2 - | -"), api.ErrArg},
		{g, table("- s0 | -"), api.ErrArg},
		// A reduce: by a production that is there; the WHOLE is none.
		{g, table("r2 - | -"), api.ErrArg},
		{g, table("- r2 | -"), api.ErrArg},
		{g, table("r-1 - | -"), api.ErrArg},
		{g, table("- r-1 | -"), api.ErrArg},
		{two, table("r0 r2 | - -"), api.OK},
		{two, table("r0 r3 | - -"), api.ErrArg},
		// To accept: at the end.
		{g, table("a - | -"), api.ErrArg},
		{g, table("a a | -"), api.ErrArg},
		{g, table("- a | -", "- a | -"), api.OK},
		{g, table("- a1 | -", "- - | -"), api.ErrArg},
		{g, table("- a-1 | -"), api.ErrArg},
		{g, table("-1 - | -", "- - | -"), api.ErrArg},
		{g, table("- -1 | -", "- - | -"), api.ErrArg},
		{g, table("--1 - | -"), api.ErrArg},
		// Next states: -1, or one that is there; the first one may be.
		{g, table("- - | 1"), api.ErrArg},
		{g, table("- - | -2"), api.ErrArg},
		{g, table("- - | 1", "- - | 0"), api.OK},
		{two, table("- - | 0 -"), api.OK},
		{two, table("- - | - 0"), api.OK},
		{two, table("- - | 0 1"), api.ErrArg},
		{two, table("- - | -"), api.ErrArg},
		// Without a production there is no reduce; without a terminal there is the end alone.
		{grammar(0, 1), table("- | -"), api.OK},
		{grammar(0, 1), table("a | 0"), api.OK},
		{grammar(0, 1), table("r0 | 0"), api.ErrArg},
		{grammar(0, 1), table("s0 | 0"), api.ErrArg},
		{grammar(0, 1, prod(0)), table("r0 | 0"), api.OK},
	} {
		checks(t, c.g, c.tab, c.want)
		if want := plainCheck(c.g, c.tab); want != c.want {
			t.Errorf("the second reading tells %d of %v", want, c.tab)
		}
	}
}

// How many states, acts and numbers there must be, for grammars of all sizes.
func TestP38HowMany(t *testing.T) {
	for terms := range 31 {
		for nons := 1; nons <= 20; nons++ {
			g := grammar(terms, nons)
			for _, states := range []int{1, 2, 199, 200} {
				checks(t, g, blank(states, terms+1, nons), api.OK)
			}
			for _, n := range []int{0, terms, terms + 2, nons, nons + 1, terms + nons, 200} {
				if n != terms+1 {
					checks(t, g, blank(3, n, nons), api.ErrArg)
				}
			}
			for _, n := range []int{0, nons - 1, nons + 1, terms, terms + 1, terms + nons, 200} {
				if n != nons {
					checks(t, g, blank(3, terms+1, n), api.ErrArg)
				}
			}
			checks(t, g, blank(0, terms+1, nons), api.ErrArg)
			checks(t, g, blank(201, terms+1, nons), api.ErrLarge)
		}
	}
	for acts := range 203 {
		for next := range 203 {
			tab := api.Table{Acts: blank(acts, 2, 1).Acts, Goto: blank(next, 2, 1).Goto}
			want := api.ErrArg
			if acts > 200 {
				want = api.ErrLarge
			} else if acts > 0 && acts == next {
				want = api.OK
			}
			checks(t, left(), tab, want)
		}
	}
}

// great is a grammar of the greatest size.
func great() api.Grammar {
	g := grammar(30, 20)
	for i := range 40 {
		g.Prods = append(g.Prods, prod(i%20, slices.Repeat([]api.Sym{term(29), non(19)}, 4)...))
	}
	return g
}

// greatTable is one of it, with as many states as there may be, and all kinds of acts.
func greatTable() api.Table {
	tab := blank(200, 31, 20)
	for n, row := range tab.Acts {
		for col := range row {
			row[col] = []api.Act{nothing(), shift((n + col) % 200), reduce((n + col) % 40)}[(n+col)%3]
		}
		row[30] = []api.Act{nothing(), accept(), reduce(n % 40)}[n%3]
	}
	for n, row := range tab.Goto {
		for to := range row {
			row[to] = (n+to*7)%201 - 1
		}
	}
	return tab
}

// A single fault is told wherever it is.
func TestP38EachPlaceIsLookedAt(t *testing.T) {
	g, tab := great(), greatTable()
	checks(t, g, tab, api.OK)
	for _, n := range []int{0, 1, 57, 198, 199} {
		for col := range 31 {
			was := tab.Acts[n][col]
			for kind := -2; kind <= 6; kind++ {
				for _, number := range edges() {
					tab.Acts[n][col] = api.Act{Kind: kind, N: number}
					checks(t, g, tab, wantOf(kind, number, col == 30))
				}
			}
			tab.Acts[n][col] = was
		}
		for col := range 20 {
			was := tab.Goto[n][col]
			for _, number := range edges() {
				tab.Goto[n][col] = number
				want := api.ErrArg
				if number >= -1 && number < 200 {
					want = api.OK
				}
				checks(t, g, tab, want)
			}
			tab.Goto[n][col] = was
		}
	}
	for n := range 200 {
		wrong := greatTable()
		wrong.Acts[n] = wrong.Acts[n][:30]
		checks(t, g, wrong, api.ErrArg)
		wrong.Acts[n] = append(wrong.Acts[n], nothing(), nothing())
		checks(t, g, wrong, api.ErrArg)
		wrong = greatTable()
		wrong.Goto[n] = wrong.Goto[n][:19]
		checks(t, g, wrong, api.ErrArg)
		wrong.Goto[n] = append(wrong.Goto[n], 0, 0)
		checks(t, g, wrong, api.ErrArg)
		wrong = greatTable()
		wrong.Acts[n][n%31].Kind = 4
		checks(t, g, wrong, api.ErrArg)
		wrong = greatTable()
		wrong.Goto[n][n%20] = 200
		checks(t, g, wrong, api.ErrArg)
	}
}

// wantOf is what the chapter says of an act in a table of 200 states for a grammar with 40 productions.
func wantOf(kind, number int, atEnd bool) api.Errno {
	right := false
	switch kind {
	case 0:
		right = number == 0
	case 1:
		right = number >= 0 && number <= 199 && !atEnd
	case 2:
		right = number >= 0 && number <= 39
	case 3:
		right = number == 0 && atEnd
	}
	if right {
		return api.OK
	}
	return api.ErrArg
}

// How many states there are bounds what shifts and Goto may lead to, how many productions what is reduced by.
func TestP38StatesThatAreThere(t *testing.T) {
	for states := 1; states <= 200; states++ {
		for _, to := range []int{-2, -1, 0, states - 1, states, states + 1, 200} {
			want := api.OK
			if to < 0 || to >= states {
				want = api.ErrArg
			}
			tab := blank(states, 2, 1)
			tab.Acts[states/2][0] = shift(to)
			checks(t, left(), tab, want)
			if to == -1 {
				want = api.OK
			}
			tab = blank(states, 2, 1)
			tab.Goto[states/2][0] = to
			checks(t, left(), tab, want)
		}
	}
	for prods := range 41 {
		g := grammar(1, 1, slices.Repeat([]api.Prod{prod(0)}, prods)...)
		for by := -2; by <= 42; by++ {
			want := api.ErrArg
			if by >= 0 && by < prods {
				want = api.OK
			}
			checks(t, g, api.Table{Acts: [][]api.Act{{reduce(by), nothing()}}, Goto: [][]int{{-1}}}, want)
			checks(t, g, api.Table{Acts: [][]api.Act{{nothing(), reduce(by)}}, Goto: [][]int{{-1}}}, want)
		}
	}
}

// What is wrong with the grammar is told first, then that there are too many states.
func TestP38WhichErrorIsFirst(t *testing.T) {
	refused(t, grammar(0, 1, make([]api.Prod, 41)...), api.ErrLarge)
	refused(t, grammar(0, 1, prod(0, make([]api.Sym, 9)...)), api.ErrLarge)
	refused(t, grammar(0, 0), api.ErrArg)
	refused(t, grammar(31, 1), api.ErrArg)
	for _, tab := range []api.Table{
		{Acts: make([][]api.Act, 201)},
		{Acts: make([][]api.Act, 201), Goto: make([][]int, 200)},
		{Acts: slices.Repeat([][]api.Act{{{Kind: 9}}}, 201), Goto: make([][]int, 201)},
		blank(201, 2, 1), blank(1000, 7, 7),
	} {
		checks(t, left(), tab, api.ErrLarge)
	}
	// Too many of Goto alone are just not as many as of Acts.
	checks(t, left(), api.Table{Acts: blank(200, 2, 1).Acts, Goto: blank(201, 2, 1).Goto}, api.ErrArg)
	checks(t, left(), api.Table{Goto: blank(201, 2, 1).Goto}, api.ErrArg)
}

// A table of Make is one of its grammar, whether there are Fights or not.
func TestP38WhatMakeTells(t *testing.T) {
	rng := rand.New(rand.NewSource(7))
	right := 0
	for range 500 {
		g := wildOne(rng)
		tab, _, err := lr.Make(g)
		if err != api.OK {
			continue
		}
		right++
		checks(t, g, tab, api.OK)
	}
	if right < 200 {
		t.Errorf("only %d tables", right)
	}
}

// allTables hands out all tables of that size whose acts are among some, and whose numbers are from -2 to the number of states.
func allTables(states, cols, nons int, acts []api.Act, each func(tab api.Table)) {
	tab := blank(states, cols, nons)
	var fill func(at int)
	fill = func(at int) {
		width := cols + nons
		if at == states*width {
			each(tab)
			return
		}
		row, col := at/width, at%width
		if col < cols {
			for _, act := range acts {
				tab.Acts[row][col] = act
				fill(at + 1)
			}
			return
		}
		for to := -2; to <= states; to++ {
			tab.Goto[row][col-cols] = to
			fill(at + 1)
		}
	}
	fill(0)
}

func TestP38AllSmallTables(t *testing.T) {
	var acts []api.Act
	for kind := -1; kind <= 4; kind++ {
		for n := -1; n <= 2; n++ {
			acts = append(acts, api.Act{Kind: kind, N: n})
		}
	}
	counts := map[api.Errno]int{}
	for _, g := range []api.Grammar{
		grammar(0, 1), brackets(), left(), must(t, "0 1\n0: n0\n"), must(t, "1 2\n0:\n"), must(t, "0 2\n0: n1\n1:\n"),
	} {
		each := func(tab api.Table) {
			want := plainCheck(g, tab)
			checks(t, g, tab, want)
			counts[want]++
		}
		allTables(1, 1, 1, acts, each)
		allTables(1, 2, 1, acts, each)
		allTables(1, 2, 2, acts, each)
		allTables(1, 3, 1, acts, each)
		allTables(2, 1, 1, acts, each)
		allTables(2, 1, 2, acts, each)
	}
	if counts[api.OK] < 500 || counts[api.ErrArg] < 100000 {
		t.Errorf("told: %v", counts)
	}
}

// anyTable is one of g, with up to some faults.
func anyTable(rng *rand.Rand, g api.Grammar) api.Table {
	tab, _, err := lr.Make(g)
	if err != api.OK || rng.Intn(10) == 0 {
		tab = blank(rng.Intn(4)*rng.Intn(70), rng.Intn(33), rng.Intn(22))
	}
	for range rng.Intn(4) * rng.Intn(2) {
		if len(tab.Acts) == 0 || len(tab.Goto) == 0 {
			break
		}
		spoil(rng, &tab)
	}
	return tab
}

// spoil puts another thing at one place of a table, or changes how many there are.
func spoil(rng *rand.Rand, tab *api.Table) {
	n, m := rng.Intn(len(tab.Acts)), rng.Intn(len(tab.Goto))
	number := edges()[rng.Intn(len(edges()))]
	switch rng.Intn(12) {
	case 0:
		tab.Acts = slices.Delete(tab.Acts, n, n+1)
	case 1:
		tab.Goto = slices.Delete(tab.Goto, m, m+1)
	case 2:
		tab.Acts[n] = append(tab.Acts[n], nothing())
	case 3:
		tab.Goto[m] = append(tab.Goto[m], -1)
	case 4:
		tab.Acts[n] = tab.Acts[n][:max(0, len(tab.Acts[n])-1)]
	case 5:
		tab.Goto[m] = tab.Goto[m][:max(0, len(tab.Goto[m])-1)]
	case 6, 7, 8:
		if len(tab.Goto[m]) > 0 {
			tab.Goto[m][rng.Intn(len(tab.Goto[m]))] = number
		}
	default:
		if len(tab.Acts[n]) > 0 {
			tab.Acts[n][rng.Intn(len(tab.Acts[n]))] = api.Act{Kind: rng.Intn(6) - 1, N: number}
		}
	}
}

func TestP38WildTables(t *testing.T) {
	rng := rand.New(rand.NewSource(8))
	counts := map[api.Errno]int{}
	for range 100 {
		g := wildOne(rng)
		if rng.Intn(2) == 0 {
			g = wild(rng, rng.Intn(9), 1+rng.Intn(6), rng.Intn(14), rng.Intn(6), rng.Intn(10))
		}
		for range 30 {
			tab := anyTable(rng, g)
			want := plainCheck(g, tab)
			checks(t, g, tab, want)
			counts[want]++
		}
	}
	if counts[api.OK] < 500 || counts[api.ErrArg] < 500 {
		t.Errorf("told: %v", counts)
	}
}
