package items_test

import (
	"math/rand"
	"slices"
	"testing"

	"pushmill/api"
	"pushmill/cfg"
	"pushmill/items"
)

func TestP35KnownLists(t *testing.T) {
	for _, c := range []struct {
		text    string
		l, want []api.Item
	}{
		{"1 1\n0: n0 t0\n0: t0\n", list(2, 0, 1), list(0, 0, 0, 0, 0, 1, 1, 0, 0, 1, 0, 1, 2, 0, 1)},
		// Nothing comes of nothing, or where the next symbol is a terminal, or none.
		{"1 1\n0: n0 t0\n0: t0\n", nil, nil},
		{"1 1\n0: n0 t0\n0: t0\n", list(1, 0, 0), list(1, 0, 0)},
		{"1 1\n0: n0 t0\n0: t0\n", list(0, 1, 1), list(0, 1, 1)},
		{"1 1\n0: n0 t0\n0: t0\n", list(0, 2, 0), list(0, 2, 0)},
		{"1 1\n0: n0 t0\n0: t0\n", list(2, 1, 1), list(2, 1, 1)},
		// What is told rises by Prod, then Dot, then Look, and has each item once.
		{"1 1\n0: n0 t0\n0: t0\n", list(2, 1, 0, 1, 1, 1, 1, 0, 1, 1, 1, 0, 0, 2, 1, 1, 1, 1, 0, 2, 1),
			list(0, 2, 1, 1, 0, 1, 1, 1, 0, 1, 1, 1, 2, 1, 0)},
		{"1 1\n0: n0 t0\n0: t0\n", list(1, 0, 0, 0, 0, 0, 0, 0, 0), list(0, 0, 0, 1, 0, 0)},
		// Behind the WHOLE a terminal may stand as well.
		{"2 1\n0: t1\n", list(1, 0, 0), list(0, 0, 0, 1, 0, 0)},
		{"2 1\n0: t1\n", list(1, 0, 2, 1, 0, 1), list(0, 0, 1, 0, 0, 2, 1, 0, 1, 1, 0, 2)},
		// Pairs of brackets: within one t1 comes behind, whatever comes behind it.
		{"2 1\n0:\n0: t0 n0 t1\n", list(2, 0, 2), list(0, 0, 2, 1, 0, 2, 2, 0, 2)},
		{"2 1\n0:\n0: t0 n0 t1\n", list(1, 1, 2), list(0, 0, 1, 1, 0, 1, 1, 1, 2)},
		{"2 1\n0:\n0: t0 n0 t1\n", list(1, 1, 0, 1, 1, 1), list(0, 0, 1, 1, 0, 1, 1, 1, 0, 1, 1, 1)},
		// What is Empty lets through what is behind it.
		{"3 3\n0: n1 n2\n1: t0\n2: t1\n2:\n", list(4, 0, 3), list(0, 0, 3, 1, 0, 1, 1, 0, 3, 4, 0, 3)},
		{"3 3\n0: n1 n2\n1: t0\n2: t1\n2:\n", list(0, 0, 2), list(0, 0, 2, 1, 0, 1, 1, 0, 2)},
		{"3 3\n0: n1 n2\n1: t0\n2: t1\n", list(0, 0, 2), list(0, 0, 2, 1, 0, 1)},
		{"3 3\n0: n1 n2 t2\n1: t0\n2: t1\n2:\n", list(0, 0, 0), list(0, 0, 0, 1, 0, 1, 1, 0, 2)},
		// An item that is come to later calls for more Looks.
		{"2 2\n0: n1\n1: n0 t0\n1: n1 t1\n1:\n", list(4, 0, 2),
			list(0, 0, 0, 0, 0, 2, 1, 0, 0, 1, 0, 1, 1, 0, 2, 2, 0, 0, 2, 0, 1, 2, 0, 2, 3, 0, 0, 3, 0, 1, 3, 0, 2, 4, 0, 2)},
		// Behind what makes nothing nothing comes: of what stands ahead of it there is no item, but it has its own.
		{"1 3\n0: n1 n2\n1: t0\n2: n2 t0\n", list(3, 0, 1), list(0, 0, 1, 3, 0, 1)},
		{"1 3\n0: n1 n2\n1: t0\n2: n2 t0\n", list(0, 1, 1), list(0, 1, 1, 2, 0, 0, 2, 0, 1)},
		{"1 3\n0: n1 t0 n2\n1:\n", list(0, 0, 1), list(0, 0, 1, 1, 0, 0)},
		// One that has no production.
		{"1 2\n0: n1 t0\n", list(0, 0, 0), list(0, 0, 0)},
		{"0 1\n", list(0, 0, 0), list(0, 0, 0)},
		{"0 1\n", list(0, 1, 0, 0, 0, 0), list(0, 0, 0, 0, 1, 0)},
		// No terminal: there is the end alone.
		{"0 1\n0: n0 n0\n0:\n", list(2, 0, 0), list(0, 0, 0, 1, 0, 0, 2, 0, 0)},
		{"0 1\n0: n0\n", list(0, 0, 0), list(0, 0, 0)},
		// The productions of a nonterminal need not stand together.
		{"1 2\n1:\n0: n1\n1: t0\n0:\n1: n1\n", list(1, 0, 0), list(0, 0, 0, 1, 0, 0, 2, 0, 0, 4, 0, 0)},
		// A production that is twice there is two.
		{"1 1\n0: t0\n0: t0\n", list(2, 0, 1), list(0, 0, 1, 1, 0, 1, 2, 0, 1)},
	} {
		closes(t, must(t, c.text), c.l, c.want)
	}
}

// Each Look is handed on, of however many there are, and no other one comes of it.
func TestP35EachLook(t *testing.T) {
	for terms := range 31 {
		g := grammar(terms, 2, prod(0, non(1)), prod(1))
		for look := range terms + 1 {
			closes(t, g, list(2, 0, look), list(0, 0, look, 1, 0, look, 2, 0, look))
			closes(t, g, list(0, 1, look), list(0, 1, look))
		}
		for n := range terms {
			g.Prods[0].Body = []api.Sym{non(1), term(n)}
			closes(t, g, list(2, 0, terms), list(0, 0, terms, 1, 0, n, 2, 0, terms))
		}
	}
}

// Each place of the widest Body: behind a nonterminal there come what the next ones begin with, up to one that is not Empty.
func TestP35EachPlace(t *testing.T) {
	for at := range 8 {
		for stop := at + 1; stop <= 8; stop++ {
			g := grammar(30, 4, prod(0, slices.Repeat([]api.Sym{non(1)}, 8)...), prod(1), prod(1, term(28)), prod(2, term(7)))
			g.Prods[0].Body[at] = non(2)
			look := 30
			if stop < 8 {
				g.Prods[0].Body[stop] = term(29)
				look = 29
			}
			want := list(0, at, 30, 3, 0, look)
			if stop > at+1 {
				want = slices.Insert(want, 1, item(3, 0, 28))
			}
			closes(t, g, list(0, at, 30), want)
		}
	}
}

// chain has a nonterminal for each of the numbers up to nons, each of which leads to the next one, from the last production to the first.
func chain(nons int) api.Grammar {
	g := grammar(1, nons, prod(nons-1, term(0)))
	for n := nons - 2; n >= 0; n-- {
		g.Prods = append(g.Prods, prod(n, non(n+1)))
	}
	return g
}

// A long chain is gone to its end, from each of its places.
func TestP35Chains(t *testing.T) {
	for nons := 1; nons <= 20; nons++ {
		g := chain(nons)
		for from := range nons + 1 {
			var want []api.Item
			for n := range from + 1 {
				want = append(want, item(n, 0, 1))
			}
			closes(t, g, list(from, 0, 1), want)
		}
	}
}

// full is a grammar with as many items as there may be in a list that is Closed of one: all productions with each Look.
func full() api.Grammar {
	g := grammar(30, 20)
	for n := range 30 {
		g.Prods = append(g.Prods, prod(0, non(0), term(n)))
	}
	g.Prods = append(g.Prods, make([]api.Prod, 10)...)
	return g
}

func TestP35TheMostOfOne(t *testing.T) {
	var want []api.Item
	for n := range 40 {
		for look := range 31 {
			want = append(want, item(n, 0, look))
		}
	}
	closes(t, full(), list(40, 0, 30), append(want, item(40, 0, 30)))
}

func TestP35WrongItems(t *testing.T) {
	g := grammar(30, 20)
	for n := range 40 {
		g.Prods = append(g.Prods, prod(0, make([]api.Sym, n%9)...))
		for i := range n % 9 {
			g.Prods[n].Body[i] = term(i)
		}
	}
	in := func(n, most int) bool { return n >= 0 && n <= most }
	for n := range 40 {
		for _, dot := range edges() {
			for _, look := range edges() {
				l := list(3, 2, 1, n, dot, look, 40, 1, 30)
				if in(dot, n%9) && in(look, 30) {
					closes(t, g, list(n, dot, look), list(n, dot, look))
				} else {
					closedFails(t, g, l, api.ErrArg)
					closedFails(t, g, l[1:2], api.ErrArg)
				}
			}
		}
	}
	for _, n := range edges() {
		for _, look := range edges() {
			if l := list(n, 0, look); in(n, 39) && in(look, 30) {
				closes(t, g, l, l)
			} else if n != 40 || !in(look, 30) {
				closedFails(t, g, l, api.ErrArg)
			}
		}
		// The WHOLE has one symbol.
		if l := list(40, n, 30); n == 1 {
			closes(t, g, l, l)
		} else if n != 0 {
			closedFails(t, g, l, api.ErrArg)
		}
	}
	closedFails(t, brackets(), list(0, 1, 0), api.ErrArg) // it has no symbol
	closedFails(t, brackets(), list(1, 4, 0), api.ErrArg)
	closedFails(t, brackets(), list(1, 3, 3), api.ErrArg)
	closedFails(t, brackets(), list(3, 0, 0), api.ErrArg)
	closedFails(t, grammar(0, 1), list(0, 0, 1), api.ErrArg)
	closedFails(t, grammar(0, 1), list(1, 0, 0), api.ErrArg)
}

// Up to 4000 items may be handed in, the same ones or not, however many the answer has.
func TestP35HowMany(t *testing.T) {
	g := grammar(30, 1, slices.Repeat([]api.Prod{prod(0, slices.Repeat([]api.Sym{non(0)}, 8)...)}, 39)...)
	g.Prods = append(g.Prods, prod(0, term(29)))
	all := readingOf(g).all()
	for _, from := range []int{0, 1, 5000} {
		l := slices.Clone(all[from : from+4001])
		slices.Reverse(l)
		closes(t, g, l[:4000], readingOf(g).closed(l[:4000]))
		closes(t, g, l[1:], readingOf(g).closed(l[1:]))
		closedFails(t, g, l, api.ErrLarge)
	}
	closedFails(t, g, all, api.ErrLarge)
	closes(t, brackets(), slices.Repeat(list(1, 2, 0), 4000), list(1, 2, 0))
	closedFails(t, brackets(), slices.Repeat(list(1, 2, 0), 4001), api.ErrLarge)
	for _, n := range []int{5000, 1 << 16, 1 << 20} {
		closedFails(t, brackets(), make([]api.Item, n), api.ErrLarge)
	}
}

// Each item is looked at, and that there are too many is told ahead of one that is wrong.
func TestP35WhichErrorIsFirst(t *testing.T) {
	g := brackets()
	for _, at := range []int{0, 1, 1999, 3998, 3999, 4000} {
		for _, it := range list(3, 0, 0, -1, 0, 0, 0, 1, 0, 0, -1, 0, 0, 0, 3, 0, 0, -1) {
			l := slices.Repeat(list(1, 1, 1), 4001)
			l[at] = it
			closedFails(t, g, l, api.ErrLarge)
			if at < 4000 {
				closedFails(t, g, l[:4000], api.ErrArg)
			} else {
				closes(t, g, l[:4000], list(0, 0, 1, 1, 0, 1, 1, 1, 1))
			}
		}
	}
	// What is wrong with the grammar is told ahead of all.
	for _, c := range []struct {
		g    api.Grammar
		want api.Errno
	}{
		{grammar(0, 0), api.ErrArg},
		{grammar(2, 1, prod(0), prod(1)), api.ErrArg},
		{grammar(0, 1, make([]api.Prod, 41)...), api.ErrLarge},
		{grammar(2, 1, prod(0), prod(0, make([]api.Sym, 9)...)), api.ErrLarge},
	} {
		closedFails(t, c.g, slices.Repeat(list(1, 0, 0), 4001), c.want)
		closedFails(t, c.g, list(99, 99, 99), c.want)
		closedFails(t, c.g, list(0, 0, 0), c.want)
		closedFails(t, c.g, nil, c.want)
	}
}

func TestP35WrongGrammars(t *testing.T) {
	wide := prod(0, make([]api.Sym, 9)...)
	for _, c := range []struct {
		g    api.Grammar
		want api.Errno
	}{
		{api.Grammar{}, api.ErrArg},
		{grammar(-1, 1), api.ErrArg},
		{grammar(31, 1), api.ErrArg},
		{grammar(0, 21), api.ErrArg},
		{grammar(0, 0, make([]api.Prod, 41)...), api.ErrArg},
		{grammar(0, 1, make([]api.Prod, 41)...), api.ErrLarge},
		{grammar(0, 1, wide), api.ErrLarge},
		{grammar(0, 1, prod(1), wide), api.ErrArg},
		{grammar(0, 1, prod(-1)), api.ErrArg},
		{grammar(0, 1, prod(0, term(0))), api.ErrArg},
		{grammar(1, 1, prod(0, non(1))), api.ErrArg},
		{grammar(1, 1, prod(0, api.Sym{})), api.ErrArg},
		{grammar(1, 1, prod(0, api.Sym{Kind: 3})), api.ErrArg},
	} {
		refused(t, c.g, c.want)
	}
	for _, n := range edges() {
		for _, g := range []api.Grammar{
			grammar(n, 1), grammar(1, n), grammar(30, 20, prod(n)), grammar(30, 20, prod(0, term(n))), grammar(30, 20, prod(0, non(n))),
		} {
			if err := cfg.Check(g); err != api.OK {
				refused(t, g, err)
			} else {
				plainly(t, g, list(len(g.Prods), 0, g.Terms), non(0))
			}
		}
	}
}

// Of each small grammar each item alone, and with another one.
func TestP35AllSmallGrammars(t *testing.T) {
	each := func(g api.Grammar) {
		r := readingOf(g)
		all := r.all()
		for i, it := range all {
			closes(t, g, []api.Item{it}, r.closed([]api.Item{it}))
			pair := []api.Item{it, all[(i*5+2)%len(all)]}
			closes(t, g, pair, r.closed(pair))
		}
	}
	small(2, 2, 2, 2, each)
	small(1, 2, 3, 1, each)
	small(1, 1, 3, 2, each)
	small(0, 3, 2, 2, each)
}

func TestP35WildLists(t *testing.T) {
	rng := rand.New(rand.NewSource(1))
	most, grown := 0, 0
	for range 5000 {
		g := wildOne(rng)
		r := readingOf(g)
		l := few(rng, g, rng.Intn(1+rng.Intn(20)))
		want := r.closed(l)
		closes(t, g, l, want)
		most = max(most, len(want))
		if len(want) > 2*len(l) {
			grown++
		}
	}
	if most < 600 || grown < 1000 {
		t.Errorf("%d lists grew, the greatest one to %d", grown, most)
	}
}

// union has the items of both lists, rising.
func union(g api.Grammar, a, b []api.Item) []api.Item {
	return slices.DeleteFunc(readingOf(g).all(), func(it api.Item) bool { return !slices.Contains(a, it) && !slices.Contains(b, it) })
}

// Closed is closed already; of two lists it is that of the one and that of the other; it does not hang on their order.
func TestP35Laws(t *testing.T) {
	rng := rand.New(rand.NewSource(2))
	for range 1000 {
		g := wild(rng, rng.Intn(8), 1+rng.Intn(6), rng.Intn(15), rng.Intn(6), rng.Intn(10))
		a, b := few(rng, g, rng.Intn(6)), few(rng, g, rng.Intn(6))
		x, _ := items.Closed(g, a)
		y, _ := items.Closed(g, b)
		closes(t, g, x, x)
		closes(t, g, slices.Concat(a, b), union(g, x, y))
		closes(t, g, slices.Concat(y, a, x, a), union(g, x, y))
		slices.Reverse(a)
		closes(t, g, a, x)
	}
}
