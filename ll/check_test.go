package ll_test

import (
	"math/rand"
	"slices"
	"testing"

	"pushmill/api"
	"pushmill/ll"
)

func TestP34KnownRows(t *testing.T) {
	g := brackets()
	two := must(t, "1 2\n1: t0\n0: n1\n1:\n0:\n")
	for _, c := range []struct {
		g    api.Grammar
		rows [][]int
		want api.Errno
	}{
		{g, [][]int{{1, 0, 0}}, api.OK},
		// It need not be the table of Make.
		{g, [][]int{{-1, -1, -1}}, api.OK},
		{g, [][]int{{0, 1, 1}}, api.OK},
		{g, nil, api.ErrArg},
		{g, [][]int{}, api.ErrArg},
		{g, [][]int{nil}, api.ErrArg},
		{g, [][]int{{}}, api.ErrArg},
		{g, [][]int{{1, 0}}, api.ErrArg},
		{g, [][]int{{1, 0, 0, 0}}, api.ErrArg},
		{g, [][]int{{1, 0, 0, -1}}, api.ErrArg},
		{g, [][]int{{1, 0, 0}, {1, 0, 0}}, api.ErrArg},
		{g, [][]int{{1, 0, 0}, nil}, api.ErrArg},
		{g, [][]int{{1, 0, 2}}, api.ErrArg},
		{g, [][]int{{-2, 0, 0}}, api.ErrArg},
		{two, [][]int{{1, 3}, {0, 2}}, api.OK},
		{two, [][]int{{3, 3}, {2, 2}}, api.OK},
		{two, [][]int{{-1, -1}, {-1, -1}}, api.OK},
		{two, [][]int{{0, 2}, {1, 3}}, api.ErrArg},
		{two, [][]int{{1, 3}, {0, 3}}, api.ErrArg},
		{two, [][]int{{2, 3}, {0, 2}}, api.ErrArg},
		{two, [][]int{{1, 3}, {0, 4}}, api.ErrArg},
		{two, [][]int{{1, 3}}, api.ErrArg},
		{two, [][]int{{1, 3}, {0, 2}, {-1, -1}}, api.ErrArg},
		{two, [][]int{{1, 3}, {0}}, api.ErrArg},
		{two, [][]int{{1}, {0, 2}}, api.ErrArg},
		{two, [][]int{{1, 3, -1}, {0}}, api.ErrArg}, // as many numbers in all
		{grammar(0, 1), [][]int{{-1}}, api.OK},
		{grammar(0, 1), [][]int{{0}}, api.ErrArg},
		{grammar(0, 1), [][]int{{}}, api.ErrArg},
		{grammar(0, 1, prod(0)), [][]int{{0}}, api.OK},
	} {
		checks(t, c.g, c.rows, c.want)
	}
}

// How many rows and how many numbers there must be, for grammars of all sizes.
func TestP34HowMany(t *testing.T) {
	for terms := range 31 {
		for nons := 1; nons <= 20; nons++ {
			g := grammar(terms, nons)
			checks(t, g, empties(nons, terms+1), api.OK)
			for _, n := range []int{0, nons - 1, nons + 1, 2 * nons, terms, 1 << 10} {
				if n != nons {
					checks(t, g, empties(n, terms+1), api.ErrArg)
				}
			}
			for _, n := range []int{0, terms, terms + 2, 2 * terms, nons, 1 << 10} {
				if n != terms+1 {
					checks(t, g, empties(nons, n), api.ErrArg)
				}
			}
		}
	}
}

// great is a grammar of the greatest size: each nonterminal has two productions, twenty apart.
func great() api.Grammar {
	g := grammar(30, 20)
	for i := range 40 {
		g.Prods = append(g.Prods, prod(i%20, slices.Repeat([]api.Sym{term(29), non(19)}, 4)...))
	}
	return g
}

// A single fault is told wherever it is.
func TestP34EachPlaceIsLookedAt(t *testing.T) {
	g := great()
	right := empties(20, 31)
	for n := range right {
		for col := range right[n] {
			right[n][col] = []int{n, n + 20, -1}[col%3]
		}
	}
	checks(t, g, right, api.OK)
	for n := range right {
		for col := range right[n] {
			rows := copied(right)
			for _, number := range append(edges(), n-1, n+1, n+19, n+20, n+21, n) {
				rows[n][col] = number
				want := api.ErrArg
				if number == n || number == n+20 || number == -1 {
					want = api.OK
				}
				checks(t, g, rows, want)
			}
		}
		rows := copied(right)
		rows[n] = rows[n][:30]
		checks(t, g, rows, api.ErrArg)
		rows[n] = append(slices.Clone(right[n]), -1)
		checks(t, g, rows, api.ErrArg)
		rows[n] = nil
		checks(t, g, rows, api.ErrArg)
		checks(t, g, slices.Delete(copied(right), n, n+1), api.ErrArg)
	}
}

// Each production may stand in its Head's row, and in no other one.
func TestP34HeadsOfRows(t *testing.T) {
	rng := rand.New(rand.NewSource(4))
	for range 300 {
		g := wildOne(rng)
		rows := empties(g.Nons, g.Terms+1)
		for n := range g.Nons {
			for number := -3; number <= len(g.Prods)+2; number++ {
				want := api.ErrArg
				if number == -1 || number >= 0 && number < len(g.Prods) && g.Prods[number].Head == n {
					want = api.OK
				}
				col := rng.Intn(g.Terms + 1)
				rows[n][col] = number
				checks(t, g, rows, want)
				rows[n][col] = -1
			}
		}
	}
}

// What is wrong with the grammar is told first, whatever the rows are.
func TestP34WhichErrorIsFirst(t *testing.T) {
	refused(t, grammar(0, 1, make([]api.Prod, 41)...), api.ErrLarge)
	refused(t, grammar(0, 1, prod(0, make([]api.Sym, 9)...)), api.ErrLarge)
	refused(t, grammar(0, 0), api.ErrArg)
	wide := great()
	wide.Prods[39].Body = append(wide.Prods[39].Body, term(0))
	checks(t, wide, empties(20, 31), api.ErrLarge)
	checks(t, wide, empties(20, 30), api.ErrLarge)
	checks(t, wide, [][]int{{99}}, api.ErrLarge)
}

// allRows hands out all rows of that size, in which each number is one of so many, from -2 on.
func allRows(nons, cols, numbers int, each func(rows [][]int)) {
	rows := empties(nons, cols)
	var fill func(at int)
	fill = func(at int) {
		if at == nons*cols {
			each(rows)
			return
		}
		for number := range numbers {
			rows[at/cols][at%cols] = number - 2
			fill(at + 1)
		}
	}
	fill(0)
}

func TestP34AllSmallRows(t *testing.T) {
	counts := map[api.Errno]int{}
	for _, g := range []api.Grammar{
		must(t, "1 2\n0: n1\n1: t0\n1:\n"),
		must(t, "1 2\n1:\n0:\n0: t0 n1\n"),
		must(t, "1 2\n0:\n"),
		must(t, "0 3\n2:\n1:\n1: n2\n"),
	} {
		for nons := range 4 {
			for cols := 1; cols <= 3 && nons*cols <= 6; cols++ {
				allRows(nons, cols, 6, func(rows [][]int) {
					want := plainCheck(g, rows)
					checks(t, g, rows, want)
					counts[want]++
				})
			}
		}
	}
	if counts[api.OK] < 50 || counts[api.ErrArg] < 10000 {
		t.Errorf("told: %v", counts)
	}
}

// anyRows are those of a table of g, with up to some faults.
func anyRows(rng *rand.Rand, g api.Grammar) [][]int {
	rows, _, err := ll.Make(g)
	if err != api.OK || rng.Intn(10) == 0 {
		rows = empties(rng.Intn(4)*rng.Intn(8), rng.Intn(33))
	}
	for range rng.Intn(4) * rng.Intn(2) {
		if len(rows) == 0 {
			break
		}
		n := rng.Intn(len(rows))
		switch rng.Intn(8) {
		case 0:
			rows = slices.Delete(rows, n, n+1)
		case 1:
			rows = append(rows, slices.Clone(rows[n]))
		case 2:
			rows[n] = append(rows[n], -1)
		case 3:
			rows[n] = rows[n][:max(0, len(rows[n])-1)]
		default:
			if len(rows[n]) > 0 {
				rows[n][rng.Intn(len(rows[n]))] = edges()[rng.Intn(len(edges()))]
			}
		}
	}
	return rows
}

func TestP34WildRows(t *testing.T) {
	rng := rand.New(rand.NewSource(5))
	counts := map[api.Errno]int{}
	for range 20000 {
		g := wildOne(rng)
		rows := anyRows(rng, g)
		want := plainCheck(g, rows)
		checks(t, g, rows, want)
		counts[want]++
	}
	if counts[api.OK] < 5000 || counts[api.ErrArg] < 5000 {
		t.Errorf("told: %v", counts)
	}
}
