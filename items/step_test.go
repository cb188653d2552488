package items_test

import (
	"math/rand"
	"slices"
	"testing"

	"pushmill/api"
	"pushmill/items"
)

func TestP36KnownSteps(t *testing.T) {
	for _, c := range []struct {
		text string
		l    []api.Item
		x    api.Sym
		want []api.Item
	}{
		{"1 1\n0: n0 t0\n0: t0\n", list(0, 0, 0, 0, 0, 1, 1, 0, 0, 1, 0, 1, 2, 0, 1), term(0), list(1, 1, 0, 1, 1, 1)},
		{"1 1\n0: n0 t0\n0: t0\n", list(0, 0, 0, 0, 0, 1, 1, 0, 0, 1, 0, 1, 2, 0, 1), non(0), list(0, 1, 0, 0, 1, 1, 2, 1, 1)},
		{"1 1\n0: n0 t0\n0: t0\n", list(0, 1, 0, 0, 1, 1, 2, 1, 1), term(0), list(0, 2, 0, 0, 2, 1)},
		{"1 1\n0: n0 t0\n0: t0\n", list(0, 1, 0, 0, 1, 1, 2, 1, 1), non(0), nil},
		{"1 1\n0: n0 t0\n0: t0\n", nil, term(0), nil},
		{"1 1\n0: n0 t0\n0: t0\n", nil, non(0), nil},
		// What would come of the list is not in it: only its own items are moved.
		{"1 1\n0: n0 t0\n0: t0\n", list(2, 0, 1), term(0), nil},
		{"1 1\n0: n0 t0\n0: t0\n", list(2, 0, 1), non(0), list(2, 1, 1)},
		{"1 1\n0: n0 t0\n0: t0\n", list(2, 0, 0), non(0), list(2, 1, 0)},
		// What has had all its symbols goes no further.
		{"1 1\n0: n0 t0\n0: t0\n", list(0, 2, 1, 1, 1, 1, 2, 1, 1), term(0), nil},
		{"1 1\n0: n0 t0\n0: t0\n", list(0, 2, 1, 1, 1, 1, 2, 1, 1), non(0), nil},
		// In whatever order they stand, and how often.
		{"1 1\n0: n0 t0\n0: t0\n", list(1, 0, 1, 0, 1, 1, 1, 0, 0, 1, 0, 1, 0, 1, 0), term(0), list(0, 2, 0, 0, 2, 1, 1, 1, 0, 1, 1, 1)},
		// A terminal is no nonterminal, even of the same number.
		{"2 2\n0: t1\n0: n1\n1:\n", list(0, 0, 0, 1, 0, 0), term(1), list(0, 1, 0)},
		{"2 2\n0: t1\n0: n1\n1:\n", list(0, 0, 0, 1, 0, 0), non(1), list(1, 1, 0)},
		{"2 2\n0: t1\n0: n1\n1:\n", list(0, 0, 0, 1, 0, 0), term(0), nil},
		{"2 2\n0: t1\n0: n1\n1:\n", list(0, 0, 0, 1, 0, 0), non(0), nil},
		// The same symbol again: each item by one alone.
		{"1 1\n0: t0 t0 t0\n", list(0, 0, 1, 0, 2, 1), term(0), list(0, 1, 1, 0, 3, 1)},
		// What they are moved to is closed.
		{"2 1\n0:\n0: t0 n0 t1\n", list(1, 0, 2), term(0), list(0, 0, 1, 1, 0, 1, 1, 1, 2)},
		{"2 1\n0:\n0: t0 n0 t1\n", list(1, 0, 2, 1, 1, 0), non(0), list(1, 2, 0)},
		{"1 1\n0: n0 n0\n0: t0\n", list(0, 0, 1), non(0), list(0, 0, 0, 0, 0, 1, 0, 1, 1, 1, 0, 0, 1, 0, 1)},
		{"0 1\n", list(0, 0, 0), non(0), list(0, 1, 0)},
	} {
		steps(t, must(t, c.text), c.l, c.x, c.want)
	}
}

func TestP36WrongSymbols(t *testing.T) {
	for _, g := range []api.Grammar{grammar(0, 1), brackets(), full(), grammar(30, 1), grammar(0, 20, prod(0, non(19)))} {
		lists := [][]api.Item{nil, list(len(g.Prods), 0, g.Terms), readingOf(g).all()}
		for _, l := range lists {
			for _, kind := range edges() {
				for _, n := range edges() {
					x := api.Sym{Kind: kind, N: n}
					if kind == 1 && n >= 0 && n < g.Terms || kind == 2 && n >= 0 && n < g.Nons {
						steps(t, g, l, x, readingOf(g).step(l, x))
					} else {
						stepFails(t, g, l, x, api.ErrArg)
					}
				}
			}
		}
	}
}

// What Closed would tell is told ahead of a wrong symbol, and with a right one as well.
func TestP36WhichErrorIsFirst(t *testing.T) {
	for _, x := range []api.Sym{term(0), term(1), term(2), non(0), non(1), {}, {Kind: 3}} {
		stepFails(t, brackets(), make([]api.Item, 4001), x, api.ErrLarge)
		stepFails(t, brackets(), slices.Repeat(list(9, 9, 9), 4001), x, api.ErrLarge)
		stepFails(t, brackets(), list(0, 0, 0, 1, 4, 0), x, api.ErrArg)
		stepFails(t, grammar(2, 1, prod(0, make([]api.Sym, 9)...)), list(9, 9, 9), x, api.ErrLarge)
		stepFails(t, grammar(2, 0), make([]api.Item, 4001), x, api.ErrArg)
	}
	steps(t, brackets(), slices.Repeat(list(1, 2, 0), 4000), term(1), list(1, 3, 0))
}

// An item that is not moved must be right, too.
func TestP36ItemsThatStay(t *testing.T) {
	for _, it := range list(0, 1, 0, 1, 0, 3, 1, 0, -1, 1, -1, 0, -1, 0, 0, 3, 0, 0, 2, 2, 0) {
		stepFails(t, brackets(), []api.Item{item(1, 2, 0), it}, term(1), api.ErrArg)
		stepFails(t, brackets(), []api.Item{it, item(1, 2, 0)}, term(1), api.ErrArg)
	}
}

func TestP36StepsOfAllSmallGrammars(t *testing.T) {
	each := func(g api.Grammar) {
		r := readingOf(g)
		all := r.all()
		for _, x := range symbols(g) {
			steps(t, g, all, x, r.step(all, x))
			for i, it := range all {
				steps(t, g, []api.Item{it}, x, r.step([]api.Item{it}, x))
				pair := []api.Item{it, all[(i*5+2)%len(all)]}
				steps(t, g, pair, x, r.step(pair, x))
			}
		}
	}
	small(1, 2, 2, 2, each)
	small(2, 1, 2, 2, each)
	small(1, 1, 3, 2, each)
	small(0, 2, 2, 2, each)
}

func TestP36WildSteps(t *testing.T) {
	rng := rand.New(rand.NewSource(3))
	moved := 0
	for range 5000 {
		g := wildOne(rng)
		r := readingOf(g)
		l := few(rng, g, rng.Intn(1+rng.Intn(40)))
		syms := symbols(g)
		x := syms[rng.Intn(len(syms))]
		if len(l) > 0 && rng.Intn(3) > 0 {
			if next := r.next(l[0]); next.Kind > 0 {
				x = next
			}
		}
		want := r.step(l, x)
		steps(t, g, l, x, want)
		if len(want) > 0 {
			moved++
		}
	}
	if moved < 1000 {
		t.Errorf("only %d times an item was moved", moved)
	}
}

// By each of its symbols an item goes to its end, and nowhere by others.
func TestP36ItemByItem(t *testing.T) {
	rng := rand.New(rand.NewSource(4))
	for range 200 {
		g := wild(rng, 5, 4, 8, 8, 6)
		n, look := rng.Intn(8), rng.Intn(6)
		for dot, x := range g.Prods[n].Body {
			l := list(n, dot, look)
			for _, y := range symbols(g) {
				if y != x {
					steps(t, g, l, y, nil)
				}
			}
			to, _ := items.Closed(g, list(n, dot+1, look))
			steps(t, g, l, x, to)
		}
	}
}
