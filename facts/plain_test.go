package facts_test

import (
	"fmt"
	"math/rand"
	"reflect"
	"slices"
	"testing"

	"pushmill/api"
	"pushmill/cfg"
	"pushmill/facts"
)

// What follows makes grammars, and reads the chapter otherwise than the program does.

const end uint64 = 1 << 63

func term(n int) api.Sym { return api.Sym{Kind: api.Term, N: n} }

func non(n int) api.Sym { return api.Sym{Kind: api.Non, N: n} }

func prod(head int, body ...api.Sym) api.Prod { return api.Prod{Head: head, Body: body} }

func grammar(terms, nons int, prods ...api.Prod) api.Grammar {
	return api.Grammar{Terms: terms, Nons: nons, Prods: prods}
}

// brackets are pairs of t0 and t1, one within the other.
func brackets() api.Grammar {
	return grammar(2, 1, prod(0), prod(0, term(0), non(0), term(1)))
}

// must is the grammar of a text.
func must(t *testing.T, s string) api.Grammar {
	t.Helper()
	g, at, err := cfg.Read(s)
	if err != api.OK {
		t.Fatalf("Read(%q): %d %d", s, at, err)
	}
	return g
}

// show tells of a grammar, which may be a great one.
func show(g api.Grammar) string {
	s := fmt.Sprint(g)
	if len(s) > 1500 {
		s = s[:1500] + fmt.Sprintf("... (%d productions)", len(g.Prods))
	}
	return s
}

// set of some terminals.
func set(terms ...int) uint64 {
	var s uint64
	for _, t := range terms {
		s += 1 << t
	}
	return s
}

// all of these symbols?
func all(l []api.Sym, is func(s api.Sym) bool) bool {
	return !slices.ContainsFunc(l, func(s api.Sym) bool { return !is(s) })
}

// byHeight tells of each nonterminal whether it has a tree: those of height 1 first, then those one higher, and no tree need be higher than there are nonterminals.
func byHeight(g api.Grammar, terms bool) []bool {
	is := make([]bool, g.Nons)
	for range g.Nons {
		next := make([]bool, g.Nons)
		for _, p := range g.Prods {
			if all(p.Body, func(s api.Sym) bool { return s.Kind == api.Term && terms || s.Kind == api.Non && is[s.N] }) {
				next[p.Head] = true
			}
		}
		is = next
	}
	return is
}

// graph has of each nonterminal those it leads to.
type graph []uint32

func (l graph) add(from, to int) { l[from] |= 1 << to }

// from has all that one comes to, the first one included.
func (l graph) from(n int) []bool {
	seen := make([]bool, len(l))
	var walk func(n int)
	walk = func(n int) {
		if seen[n] {
			return
		}
		seen[n] = true
		for to := range l {
			if l[n]>>to&1 == 1 {
				walk(to)
			}
		}
	}
	walk(n)
	return seen
}

// spread unites the sets of all that one comes to.
func (l graph) spread(sets []uint64) []uint64 {
	wide := make([]uint64, len(l))
	for n := range l {
		for to, seen := range l.from(n) {
			if seen {
				wide[n] |= sets[to]
			}
		}
	}
	return wide
}

// plainFirst: a nonterminal leads to those with which a Body of it that makes a word may begin.
func plainFirst(g api.Grammar, makes, empty []bool) []uint64 {
	own, leads := make([]uint64, g.Nons), make(graph, g.Nons)
	isEmpty := func(s api.Sym) bool { return s.Kind == api.Non && empty[s.N] }
	for _, p := range g.Prods {
		if !all(p.Body, func(s api.Sym) bool { return s.Kind == api.Term || makes[s.N] }) {
			continue
		}
		for i, s := range p.Body {
			if !all(p.Body[:i], isEmpty) {
				continue
			}
			if s.Kind == api.Term {
				own[p.Head] |= set(s.N)
			} else {
				leads.add(p.Head, s.N)
			}
		}
	}
	return leads.spread(own)
}

// plainBegin takes each symbol that has nothing but Empty ones ahead of it.
func plainBegin(f api.Facts, body []api.Sym, behind uint64) uint64 {
	isEmpty := func(s api.Sym) bool { return s.Kind == api.Non && f.Empty[s.N] }
	var l uint64
	for i, s := range body {
		if !all(body[:i], isEmpty) {
			continue
		}
		if s.Kind == api.Term {
			l |= set(s.N)
		} else {
			l |= f.First[s.N]
		}
	}
	if all(body, isEmpty) {
		l |= behind
	}
	return l
}

// plainFollow: a nonterminal leads to the Heads behind which it may stand last.
func plainFollow(g api.Grammar, f api.Facts) []uint64 {
	own, leads := make([]uint64, g.Nons), make(graph, g.Nons)
	own[0] = end
	for _, p := range g.Prods {
		for i, s := range p.Body {
			if s.Kind != api.Non {
				continue
			}
			own[s.N] |= plainBegin(f, p.Body[i+1:], 0)
			if plainBegin(f, p.Body[i+1:], end) >= end {
				leads.add(s.N, p.Head)
			}
		}
	}
	return leads.spread(own)
}

// plainOf has the facts of a grammar that is right.
func plainOf(g api.Grammar) api.Facts {
	f := api.Facts{Makes: byHeight(g, true), Empty: byHeight(g, false)}
	f.First = plainFirst(g, f.Makes, f.Empty)
	f.Follow = plainFollow(g, f)
	leads := make(graph, g.Nons)
	for _, p := range g.Prods {
		for _, s := range p.Body {
			if s.Kind == api.Non {
				leads.add(p.Head, s.N)
			}
		}
	}
	f.Reach = leads.from(0)
	return f
}

// wild is a grammar that is right, with productions no wider than that, and so many of ten symbols terminals.
func wild(rng *rand.Rand, terms, nons, prods, width, often int) api.Grammar {
	g := grammar(terms, nons)
	for range prods {
		p := prod(rng.Intn(nons))
		for range rng.Intn(width + 1) {
			s := non(rng.Intn(nons))
			if terms > 0 && rng.Intn(10) < often {
				s = term(rng.Intn(terms))
			}
			p.Body = append(p.Body, s)
		}
		g.Prods = append(g.Prods, p)
	}
	return g
}

// wildOne is one of any size that there may be.
func wildOne(rng *rand.Rand) api.Grammar {
	return wild(rng, rng.Intn(31), 1+rng.Intn(20), rng.Intn(41), rng.Intn(9), rng.Intn(10))
}

// wildBody has symbols of g.
func wildBody(rng *rand.Rand, g api.Grammar, length int) []api.Sym {
	l := make([]api.Sym, length)
	for i := range l {
		l[i] = non(rng.Intn(g.Nons))
		if g.Terms > 0 && rng.Intn(8) == 0 {
			l[i] = term(rng.Intn(g.Terms))
		}
	}
	return l
}

// small hands out all grammars with so many terminals and nonterminals that have up to so many productions of up to so many symbols.
func small(terms, nons, prods, width int, each func(g api.Grammar)) {
	bodies := smallBodies(terms, nons, width)
	var add func(g api.Grammar)
	add = func(g api.Grammar) {
		each(g)
		if len(g.Prods) == prods {
			return
		}
		for head := range nons {
			for _, body := range bodies {
				add(grammar(terms, nons, append(slices.Clone(g.Prods), prod(head, body...))...))
			}
		}
	}
	add(grammar(terms, nons))
}

// smallBodies has all lists of up to so many symbols.
func smallBodies(terms, nons, width int) [][]api.Sym {
	var syms []api.Sym
	for n := range terms {
		syms = append(syms, term(n))
	}
	for n := range nons {
		syms = append(syms, non(n))
	}
	bodies := [][]api.Sym{nil}
	for from := 0; width > 0; width-- {
		to := len(bodies)
		for _, body := range bodies[from:to] {
			for _, s := range syms {
				bodies = append(bodies, append(slices.Clone(body), s))
			}
		}
		from = to
	}
	return bodies
}

// same: are these facts the same?
func same(f, want api.Facts) bool {
	return slices.Equal(f.Empty, want.Empty) && slices.Equal(f.First, want.First) && slices.Equal(f.Follow, want.Follow) &&
		slices.Equal(f.Reach, want.Reach) && slices.Equal(f.Makes, want.Makes)
}

// has: are these the facts of g?
func has(t *testing.T, g api.Grammar, want api.Facts) {
	t.Helper()
	if f, err := facts.Of(g); !same(f, want) || err != api.OK {
		t.Fatalf("Of(%s): %v %d, not %v", show(g), f, err, want)
	}
}

// begins: is that what body and behind begin with?
func begins(t *testing.T, g api.Grammar, body []api.Sym, behind, want uint64) {
	t.Helper()
	if l, err := facts.Begin(g, body, behind); l != want || err != api.OK {
		t.Fatalf("Begin(%s, %v, %x): %x %d, not %x", show(g), body, behind, l, err, want)
	}
}

// beginFails: is that refused with ErrArg, and nothing beside it?
func beginFails(t *testing.T, g api.Grammar, body []api.Sym) {
	t.Helper()
	if l, err := facts.Begin(g, body, 1); l != 0 || err != api.ErrArg {
		t.Fatalf("Begin(%s, %.500v): %x %d, not ErrArg", show(g), fmt.Sprint(body), l, err)
	}
}

// refused: do both calls refuse this grammar with that error, whatever is beside it, and tell nothing else?
func refused(t *testing.T, g api.Grammar, want api.Errno) {
	t.Helper()
	if f, err := facts.Of(g); !reflect.DeepEqual(f, api.Facts{}) || err != want {
		t.Fatalf("Of(%s): %v %d, not %d", show(g), f, err, want)
	}
	for _, body := range [][]api.Sym{nil, {non(0)}, {term(-1)}, {{}}, make([]api.Sym, 61)} {
		if l, err := facts.Begin(g, body, 5); l != 0 || err != want {
			t.Fatalf("Begin(%s, %v): %x %d, not %d", show(g), body, l, err, want)
		}
	}
}
