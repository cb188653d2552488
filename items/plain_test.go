package items_test

import (
	"fmt"
	"math"
	"math/rand"
	"reflect"
	"slices"
	"testing"

	"pushmill/api"
	"pushmill/cfg"
	"pushmill/facts"
	"pushmill/items"
)

// What follows makes grammars and items, and reads the chapter otherwise than the program does.

func term(n int) api.Sym { return api.Sym{Kind: api.Term, N: n} }

func non(n int) api.Sym { return api.Sym{Kind: api.Non, N: n} }

func prod(head int, body ...api.Sym) api.Prod { return api.Prod{Head: head, Body: body} }

func grammar(terms, nons int, prods ...api.Prod) api.Grammar {
	return api.Grammar{Terms: terms, Nons: nons, Prods: prods}
}

func item(prod, dot, look int) api.Item { return api.Item{Prod: prod, Dot: dot, Look: look} }

// list of items is written as their numbers, three each.
func list(numbers ...int) []api.Item {
	var l []api.Item
	for n := range slices.Chunk(numbers, 3) {
		l = append(l, item(n[0], n[1], n[2]))
	}
	return l
}

// left is a list of t0 that grows at its left.
func left() api.Grammar {
	return grammar(1, 1, prod(0, non(0), term(0)), prod(0, term(0)))
}

// brackets are pairs of t0 and t1, one within the other.
func brackets() api.Grammar {
	return grammar(2, 1, prod(0), prod(0, term(0), non(0), term(1)))
}

// must is the grammar of a text.
func must(t *testing.T, s string) api.Grammar {
	t.Helper()
	g, at, err := cfg.Read(s)
	if err != api.OK {
		t.Fatalf("Read(%q): %d %d", s, at, err)
	}
	return g
}

// show tells of a grammar, or of items, of which there may be many.
func show(thing any) string {
	s := fmt.Sprint(thing)
	if len(s) > 1500 {
		s = s[:1500] + fmt.Sprintf("... (of %d bytes)", len(s))
	}
	return s
}

// reading of a grammar, the WHOLE being its last production, of which no nonterminal is the Head.
type reading struct {
	g      api.Grammar
	prods  []api.Prod
	begins map[api.Item]uint64 // what has been found out of begin
}

func readingOf(g api.Grammar) reading {
	return reading{g, append(slices.Clone(g.Prods), prod(-1, non(0))), map[api.Item]uint64{}}
}

// all has all items that there are, in order.
func (r reading) all() []api.Item {
	var l []api.Item
	for n, p := range r.prods {
		for dot := range len(p.Body) + 1 {
			for look := range r.g.Terms + 1 {
				l = append(l, item(n, dot, look))
			}
		}
	}
	return l
}

// next is the next symbol of an item; of one that has all its symbols had it is none of a grammar.
func (r reading) next(it api.Item) api.Sym {
	if body := r.prods[it.Prod].Body; it.Dot < len(body) {
		return body[it.Dot]
	}
	return api.Sym{}
}

// bit is where a set has a Look.
func (r reading) bit(look int) uint64 {
	if look == r.g.Terms {
		return 1 << 63
	}
	return 1 << look
}

// begin is what comes behind the next symbol of an item.
func (r reading) begin(it api.Item) uint64 {
	set, known := r.begins[it]
	if !known {
		set, _ = facts.Begin(r.g, r.prods[it.Prod].Body[it.Dot+1:], r.bit(it.Look))
		r.begins[it] = set
	}
	return set
}

// closed walks from each item of l to those that it calls for; the list is all items but those that were not come to.
func (r reading) closed(l []api.Item) []api.Item {
	if len(l) == 0 {
		return nil
	}
	seen := map[api.Item]bool{}
	var walk func(it api.Item)
	walk = func(it api.Item) {
		if seen[it] {
			return
		}
		seen[it] = true
		x := r.next(it)
		if x.Kind != api.Non {
			return
		}
		set := r.begin(it)
		for n, p := range r.prods {
			for look := range r.g.Terms + 1 {
				if p.Head == x.N && set&r.bit(look) != 0 {
					walk(item(n, 0, look))
				}
			}
		}
	}
	for _, it := range l {
		walk(it)
	}
	return slices.DeleteFunc(r.all(), func(it api.Item) bool { return !seen[it] })
}

// step is closed of what is left of l when all that has another symbol next is taken out.
func (r reading) step(l []api.Item, x api.Sym) []api.Item {
	l = slices.DeleteFunc(slices.Clone(l), func(it api.Item) bool { return r.next(it) != x })
	for i := range l {
		l[i].Dot++
	}
	return r.closed(l)
}

// symbols has the terminals, then the nonterminals.
func symbols(g api.Grammar) []api.Sym {
	var l []api.Sym
	for n := range g.Terms {
		l = append(l, term(n))
	}
	for n := range g.Nons {
		l = append(l, non(n))
	}
	return l
}

// automaton has the states in the order in which they are come to, each told from others by all its items; it is given up behind most of them.
func (r reading) automaton(most int) (api.Auto, api.Errno) {
	var a api.Auto
	numbers := map[string]int{}
	visit := func(l []api.Item) int {
		name := fmt.Sprint(l)
		if _, known := numbers[name]; !known {
			numbers[name] = len(numbers)
			a.States = append(a.States, l)
		}
		return numbers[name]
	}
	visit(r.closed(list(len(r.g.Prods), 0, r.g.Terms)))
	for at := 0; at < len(a.States); at++ {
		var row []int
		for _, x := range symbols(r.g) {
			if l := r.step(a.States[at], x); len(l) > 0 {
				row = append(row, visit(l))
			} else {
				row = append(row, -1)
			}
		}
		a.Next = append(a.Next, row)
		if len(a.States) > most {
			return api.Auto{}, api.ErrStates
		}
	}
	return a, api.OK
}

// plainCheck is what Closed must tell of a grammar and a list; a list of a right grammar is looked up among all its items.
func plainCheck(g api.Grammar, l []api.Item) api.Errno {
	if err := cfg.Check(g); err != api.OK {
		return err
	}
	if len(l) > 4000 {
		return api.ErrLarge
	}
	may := map[api.Item]bool{}
	for _, it := range readingOf(g).all() {
		may[it] = true
	}
	if slices.ContainsFunc(l, func(it api.Item) bool { return !may[it] }) {
		return api.ErrArg
	}
	return api.OK
}

// wild is a grammar that is right, with productions no wider than that, and so many of ten symbols terminals.
func wild(rng *rand.Rand, terms, nons, prods, width, often int) api.Grammar {
	g := grammar(terms, nons)
	for range prods {
		p := prod(rng.Intn(nons))
		for range rng.Intn(width + 1) {
			s := non(rng.Intn(nons))
			if terms > 0 && rng.Intn(10) < often {
				s = term(rng.Intn(terms))
			}
			p.Body = append(p.Body, s)
		}
		g.Prods = append(g.Prods, p)
	}
	return g
}

// wildOne is one of any size that there may be.
func wildOne(rng *rand.Rand) api.Grammar {
	return wild(rng, rng.Intn(31), 1+rng.Intn(20), rng.Intn(41), rng.Intn(9), rng.Intn(10))
}

// few has so many items of g, in any order, maybe some of them twice.
func few(rng *rand.Rand, g api.Grammar, count int) []api.Item {
	all := readingOf(g).all()
	var l []api.Item
	for range count {
		l = append(l, all[rng.Intn(len(all))])
	}
	return l
}

// edges are numbers at both sides of the bounds.
func edges() []int {
	return []int{math.MinInt, -1 << 32, -2, -1, 0, 1, 2, 7, 8, 9, 19, 20, 21, 29, 30, 31, 32, 39, 40, 41, 42, 62, 63, 64, 255, 256, 1<<32 - 1, 1 << 32, 1<<32 + 1, math.MaxInt}
}

// small hands out all grammars with so many terminals and nonterminals that have up to so many productions of up to so many symbols.
func small(terms, nons, prods, width int, each func(g api.Grammar)) {
	bodies := smallBodies(terms, nons, width)
	var add func(g api.Grammar)
	add = func(g api.Grammar) {
		each(g)
		if len(g.Prods) == prods {
			return
		}
		for head := range nons {
			for _, body := range bodies {
				add(grammar(terms, nons, append(slices.Clone(g.Prods), prod(head, body...))...))
			}
		}
	}
	add(grammar(terms, nons))
}

// smallBodies has all lists of up to so many symbols.
func smallBodies(terms, nons, width int) [][]api.Sym {
	syms := symbols(grammar(terms, nons))
	bodies := [][]api.Sym{nil}
	for from := 0; width > 0; width-- {
		to := len(bodies)
		for _, body := range bodies[from:to] {
			for _, s := range syms {
				bodies = append(bodies, append(slices.Clone(body), s))
			}
		}
		from = to
	}
	return bodies
}

// closes: is that Closed of l?
func closes(t *testing.T, g api.Grammar, l, want []api.Item) {
	t.Helper()
	if got, err := items.Closed(g, l); !slices.Equal(got, want) || err != api.OK {
		t.Fatalf("Closed(%s, %s): %s %d, not %s", show(g), show(l), show(got), err, show(want))
	}
}

// steps: is that Step of l by x?
func steps(t *testing.T, g api.Grammar, l []api.Item, x api.Sym, want []api.Item) {
	t.Helper()
	if got, err := items.Step(g, l, x); !slices.Equal(got, want) || err != api.OK {
		t.Fatalf("Step(%s, %s, %v): %s %d, not %s", show(g), show(l), x, show(got), err, show(want))
	}
}

// sameAuto: are these the same states and rows?
func sameAuto(a, b api.Auto) bool {
	return slices.EqualFunc(a.States, b.States, slices.Equal) && slices.EqualFunc(a.Next, b.Next, slices.Equal)
}

// leads: is that the automaton of g?
func leads(t *testing.T, g api.Grammar, want api.Auto) {
	t.Helper()
	if a, err := items.All(g); !sameAuto(a, want) || err != api.OK {
		t.Fatalf("All(%s): %s %d, not %s", show(g), show(a), err, show(want))
	}
}

// closedFails: do Closed, and Step by any symbol, refuse that with this error, and tell nothing else?
func closedFails(t *testing.T, g api.Grammar, l []api.Item, want api.Errno) {
	t.Helper()
	if got, err := items.Closed(g, l); got != nil || err != want {
		t.Fatalf("Closed(%s, %s): %s %d, not %d", show(g), show(l), show(got), err, want)
	}
	for _, x := range []api.Sym{non(0), term(0), term(-1), {}} {
		stepFails(t, g, l, x, want)
	}
}

// stepFails: is that refused with this error, and nothing told beside it?
func stepFails(t *testing.T, g api.Grammar, l []api.Item, x api.Sym, want api.Errno) {
	t.Helper()
	if got, err := items.Step(g, l, x); got != nil || err != want {
		t.Fatalf("Step(%s, %s, %v): %s %d, not %d", show(g), show(l), x, show(got), err, want)
	}
}

// allFails: is that refused with this error, and nothing told beside it?
func allFails(t *testing.T, g api.Grammar, want api.Errno) {
	t.Helper()
	if a, err := items.All(g); !reflect.DeepEqual(a, api.Auto{}) || err != want {
		t.Fatalf("All(%s): %s %d, not %d", show(g), show(a), err, want)
	}
}

// refused: do all calls refuse this grammar with that error, whatever is beside it?
func refused(t *testing.T, g api.Grammar, want api.Errno) {
	t.Helper()
	for _, l := range [][]api.Item{nil, {}, list(0, 0, 0), list(-1, 0, 0), list(1, 1, 1), make([]api.Item, 4001)} {
		closedFails(t, g, l, want)
	}
	allFails(t, g, want)
}

// plainly: do Closed and Step answer as the second reading does?
func plainly(t *testing.T, g api.Grammar, l []api.Item, x api.Sym) api.Errno {
	t.Helper()
	if err := plainCheck(g, l); err != api.OK {
		closedFails(t, g, l, err)
		stepFails(t, g, l, x, err)
		return err
	}
	r := readingOf(g)
	closes(t, g, l, r.closed(l))
	if !slices.Contains(symbols(g), x) {
		stepFails(t, g, l, x, api.ErrArg)
		return api.ErrArg
	}
	steps(t, g, l, x, r.step(l, x))
	return api.OK
}
