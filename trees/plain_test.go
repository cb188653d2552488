package trees_test

import (
	"fmt"
	"math"
	"math/rand"
	"reflect"
	"slices"
	"strconv"
	"strings"
	"testing"

	"pushmill/api"
	"pushmill/cfg"
	"pushmill/trees"
)

// What follows makes grammars, trees and events, and reads the chapter otherwise than the program does.

func term(n int) api.Sym { return api.Sym{Kind: api.Term, N: n} }

func non(n int) api.Sym { return api.Sym{Kind: api.Non, N: n} }

func prod(head int, body ...api.Sym) api.Prod { return api.Prod{Head: head, Body: body} }

func grammar(terms, nons int, prods ...api.Prod) api.Grammar {
	return api.Grammar{Terms: terms, Nons: nons, Prods: prods}
}

// brackets are pairs of t0 and t1, one within the other.
func brackets() api.Grammar {
	return grammar(2, 1, prod(0), prod(0, term(0), non(0), term(1)))
}

// forest has all sorts of productions: none, one, two and eight Kids, a terminal alone.
func forest() api.Grammar {
	return grammar(1, 1, prod(0), prod(0, non(0)), prod(0, non(0), non(0)), prod(0, term(0)), prod(0, slices.Repeat([]api.Sym{non(0)}, 8)...))
}

// two has two nonterminals that make each other, and a third one, of which no tree is.
func two() api.Grammar {
	return grammar(3, 3, prod(0, term(2), non(1), non(1)), prod(1), prod(1, non(0), term(1)), prod(0, term(0), term(0)), prod(2), prod(1, non(2)), prod(2, non(2)))
}

// must is the grammar of a text.
func must(t *testing.T, s string) api.Grammar {
	t.Helper()
	g, at, err := cfg.Read(s)
	if err != api.OK {
		t.Fatalf("Read(%q): %d %d", s, at, err)
	}
	return g
}

// show tells of a thing, which may be great.
func show(thing any) string {
	s := fmt.Sprint(thing)
	if len(s) > 1500 {
		s = s[:1500] + fmt.Sprintf("... (of %d bytes)", len(s))
	}
	return s
}

func node(prod int, kids ...api.Tree) api.Tree { return api.Tree{Prod: prod, Kids: kids} }

func token(n int) api.Tree { return api.Tree{Prod: -1, Tok: n} }

// tree is written as a text: a number and brackets for a production, a dot for a leaf, whose number is that of the dots ahead of it.
func tree(s string) api.Tree {
	var open []api.Tree
	dots := 0
	put := func(t api.Tree) { open[len(open)-1].Kids = append(open[len(open)-1].Kids, t) }
	open = append(open, api.Tree{})
	for i := 0; i < len(s); i++ {
		switch s[i] {
		case '.':
			put(token(dots))
			dots++
		case ')':
			last := open[len(open)-1]
			open = open[:len(open)-1]
			put(last)
		case ' ':
		default:
			digits, _, _ := strings.Cut(s[i:], "(")
			n, err := strconv.Atoi(digits)
			if err != nil {
				panic(s)
			}
			open = append(open, node(n))
			i += len(digits)
		}
	}
	return open[0].Kids[0]
}

func open(n int) api.Event { return api.Event{Kind: api.EOpen, N: n} }

func got(n int) api.Event { return api.Event{Kind: api.EToken, N: n} }

func shut(n int) api.Event { return api.Event{Kind: api.EClose, N: n} }

func reduce(n int) api.Event { return api.Event{Kind: api.EReduce, N: n} }

// events are written as a text: o, t, c or r, and a number.
func events(s string) []api.Event {
	var l []api.Event
	for _, word := range strings.Fields(s) {
		n, err := strconv.Atoi(word[1:])
		if err != nil {
			panic(s)
		}
		l = append(l, api.Event{Kind: strings.Index("-otcr", word[:1]), N: n})
	}
	return l
}

// chain is below within so many productions of one Kid.
func chain(prod, many int, below api.Tree) api.Tree {
	for range many {
		below = node(prod, below)
	}
	return below
}

// bush is a tree of forest with so many nodes, which is no deeper than needed: production 4 has eight Kids, 1 one, 0 none.
func bush(nodes int) api.Tree {
	switch {
	case nodes == 1:
		return node(0)
	case nodes < 9:
		return node(1, bush(nodes-1))
	}
	t := node(4)
	for left, i := nodes-1, 8; i > 0; i-- {
		n := left / i
		t.Kids = append(t.Kids, bush(n))
		left -= n
	}
	return t
}

// place is a node of a tree, how deep it is, and what must stand there; none, if nothing may.
type place struct {
	tree api.Tree
	deep int
	must api.Sym
}

// placesOf has the nodes of t, each ahead of its Kids, but no more than so many.
func placesOf(g api.Grammar, t api.Tree, most int) []place {
	var l []place
	for todo := []place{{t, 1, non(0)}}; len(todo) > 0 && len(l) < most; {
		last := todo[len(todo)-1]
		todo = todo[:len(todo)-1]
		l = append(l, last)
		for i := min(len(last.tree.Kids), 10) - 1; i >= 0; i-- {
			kid := place{last.tree.Kids[i], last.deep + 1, api.Sym{}}
			if p := last.tree.Prod; 0 <= p && p < len(g.Prods) && i < len(g.Prods[p].Body) {
				kid.must = g.Prods[p].Body[i]
			}
			todo = append(todo, kid)
		}
	}
	return l
}

// stands: is it what must stand there, with so many leaves ahead?
func (p place) stands(g api.Grammar, leaves int) bool {
	if p.must.Kind == api.Term {
		return reflect.DeepEqual(p.tree, api.Tree{Prod: -1, Tok: leaves, Kids: p.tree.Kids[:0]})
	}
	for n, by := range g.Prods {
		if n == p.tree.Prod && p.must == non(by.Head) {
			return p.tree.Tok == 0 && len(p.tree.Kids) == len(by.Body)
		}
	}
	return false
}

// plainYield goes through a list of nodes, and looks at each by itself.
func plainYield(g api.Grammar, t api.Tree) ([]int, api.Errno) {
	if err := cfg.Check(g); err != api.OK {
		return nil, err
	}
	word := []int{}
	for i, p := range placesOf(g, t, 1001) {
		switch {
		case i == 1000:
			return nil, api.ErrLarge
		case p.deep > 100:
			return nil, api.ErrDeep
		case !p.stands(g, len(word)):
			return nil, api.ErrForm
		case p.must.Kind == api.Term:
			word = append(word, p.must.N)
		}
	}
	return word, api.OK
}

// plainDown has the events of a tree from the top, by a list of what is still to be told, the next one last.
func plainDown(t api.Tree) []api.Event {
	type todo struct {
		tree api.Tree
		end  bool
	}
	var l []api.Event
	for ahead := []todo{{t, false}}; len(ahead) > 0; {
		next := ahead[len(ahead)-1]
		ahead = ahead[:len(ahead)-1]
		switch {
		case next.end:
			l = append(l, shut(next.tree.Prod))
		case next.tree.Prod == -1:
			l = append(l, got(next.tree.Tok))
		default:
			l = append(l, open(next.tree.Prod))
			ahead = append(ahead, todo{next.tree, true})
			for _, kid := range slices.Backward(next.tree.Kids) {
				ahead = append(ahead, todo{kid, false})
			}
		}
	}
	return l
}

// plainUp has them from below: as they are from the top, without those that open.
func plainUp(t api.Tree) []api.Event {
	var l []api.Event
	for _, e := range plainDown(t) {
		switch e.Kind {
		case api.EToken:
			l = append(l, e)
		case api.EClose:
			l = append(l, reduce(e.N))
		}
	}
	return l
}

// reader reads events, of which some are left, as what must come next.
type reader struct {
	g    api.Grammar
	rest []api.Event
}

// next is the first event that is left, if it has that kind.
func (r *reader) next(kind int) (int, bool) {
	if len(r.rest) == 0 || r.rest[0].Kind != kind {
		return 0, false
	}
	n := r.rest[0].N
	r.rest = r.rest[1:]
	return n, true
}

// prodOf is the production that an event names, if it is one of that nonterminal.
func (r *reader) prodOf(kind, head int) (int, bool) {
	n, ok := r.next(kind)
	return n, ok && n >= 0 && n < len(r.g.Prods) && r.g.Prods[n].Head == head
}

// down reads a tree that stands for s, from the top, and tells how many leaves there are then.
func (r *reader) down(s api.Sym, leaves int) (api.Tree, int, bool) {
	if s.Kind == api.Term {
		n, ok := r.next(api.EToken)
		return token(n), leaves + 1, ok && n == leaves
	}
	n, ok := r.prodOf(api.EOpen, s.N)
	if !ok {
		return api.Tree{}, 0, false
	}
	t := node(n)
	for _, below := range r.g.Prods[n].Body {
		var kid api.Tree
		if kid, leaves, ok = r.down(below, leaves); !ok {
			return api.Tree{}, 0, false
		}
		t.Kids = append(t.Kids, kid)
	}
	end, ok := r.next(api.EClose)
	return t, leaves, ok && end == n
}

// back reads a tree that stands for s, from events from below that have been turned round; leaves are as many as there may be ahead of its end.
func (r *reader) back(s api.Sym, leaves int) (api.Tree, int, bool) {
	if s.Kind == api.Term {
		n, ok := r.next(api.EToken)
		return token(n), leaves - 1, ok && n == leaves-1
	}
	n, ok := r.prodOf(api.EReduce, s.N)
	if !ok {
		return api.Tree{}, 0, false
	}
	t := node(n, make([]api.Tree, len(r.g.Prods[n].Body))...)
	for i := len(t.Kids) - 1; i >= 0; i-- {
		if t.Kids[i], leaves, ok = r.back(r.g.Prods[n].Body[i], leaves); !ok {
			return api.Tree{}, 0, false
		}
	}
	return t, leaves, true
}

// plainOf is the tree that was read, if it was, or what is wrong.
func plainOf(g api.Grammar, l []api.Event, read func() (api.Tree, bool)) (api.Tree, api.Errno) {
	if err := cfg.Check(g); err != api.OK {
		return api.Tree{}, err
	}
	if len(l) > 2000 {
		return api.Tree{}, api.ErrLarge
	}
	t, ok := read()
	if !ok {
		return api.Tree{}, api.ErrForm
	}
	if _, err := plainYield(g, t); err != api.OK {
		return api.Tree{}, err
	}
	return t, api.OK
}

// plainOfDown reads from the top what may come next.
func plainOfDown(g api.Grammar, l []api.Event) (api.Tree, api.Errno) {
	return plainOf(g, l, func() (api.Tree, bool) {
		r := reader{g, l}
		t, _, ok := r.down(non(0), 0)
		return t, ok && len(r.rest) == 0
	})
}

// plainOfUp reads from the end what may have come ahead.
func plainOfUp(g api.Grammar, l []api.Event) (api.Tree, api.Errno) {
	return plainOf(g, l, func() (api.Tree, bool) {
		r := reader{g, slices.Clone(l)}
		slices.Reverse(r.rest)
		leaves := 0
		for _, e := range l {
			if e.Kind == api.EToken {
				leaves++
			}
		}
		t, left, ok := r.back(non(0), leaves)
		return t, ok && left == 0 && len(r.rest) == 0
	})
}

// allTrees has all trees that stand for s and have no more nodes than most, with leaves that have no numbers yet.
func allTrees(g api.Grammar, s api.Sym, most int) []api.Tree {
	if most <= 0 {
		return nil
	}
	if s.Kind == api.Term {
		return []api.Tree{token(0)}
	}
	var l []api.Tree
	for n, p := range g.Prods {
		if p.Head == s.N {
			for _, kids := range allKids(g, p.Body, most-1) {
				l = append(l, node(n, kids...))
			}
		}
	}
	return l
}

// allKids has all lists of trees that stand for a Body, with no more nodes in all than most.
func allKids(g api.Grammar, body []api.Sym, most int) [][]api.Tree {
	if len(body) == 0 {
		return [][]api.Tree{nil}
	}
	var l [][]api.Tree
	for _, first := range allTrees(g, body[0], most-len(body)+1) {
		for _, rest := range allKids(g, body[1:], most-count(first)) {
			l = append(l, append([]api.Tree{first}, rest...))
		}
	}
	return l
}

// count is how many nodes a tree has.
func count(t api.Tree) int {
	n := 1
	for _, kid := range t.Kids {
		n += count(kid)
	}
	return n
}

// copied is t in new memory.
func copied(t api.Tree) api.Tree {
	t.Kids = slices.Clone(t.Kids)
	for i, kid := range t.Kids {
		t.Kids[i] = copied(kid)
	}
	return t
}

// numbered is t, in new memory, with the numbers that its leaves must have.
func numbered(t api.Tree) api.Tree {
	leaves := 0
	var of func(t api.Tree) api.Tree
	of = func(t api.Tree) api.Tree {
		if t.Prod == -1 {
			leaves++
			return token(leaves - 1)
		}
		kids := make([]api.Tree, len(t.Kids))
		for i := range kids {
			kids[i] = of(t.Kids[i])
		}
		return node(t.Prod, kids...)
	}
	return of(t)
}

// wild is a grammar that is right, with productions no wider than that, and so many of ten symbols terminals.
func wild(rng *rand.Rand, terms, nons, prods, width, often int) api.Grammar {
	g := grammar(terms, nons)
	for range prods {
		p := prod(rng.Intn(nons))
		for range rng.Intn(width + 1) {
			s := non(rng.Intn(nons))
			if terms > 0 && rng.Intn(10) < often {
				s = term(rng.Intn(terms))
			}
			p.Body = append(p.Body, s)
		}
		g.Prods = append(g.Prods, p)
	}
	return g
}

// wildOne is one of any size that there may be.
func wildOne(rng *rand.Rand) api.Grammar {
	return wild(rng, rng.Intn(31), 1+rng.Intn(20), rng.Intn(41), rng.Intn(9), rng.Intn(10))
}

// never stands for the size of a tree that there is not.
const never = 1 << 20

// leastSizes has of each production how many nodes its least tree has.
func leastSizes(g api.Grammar) []int {
	of := slices.Repeat([]int{never}, len(g.Prods))
	for range len(g.Prods) * 2 {
		for n, p := range g.Prods {
			size := 1
			for _, s := range p.Body {
				least := 1
				if s.Kind == api.Non {
					least = never
				}
				for m, q := range g.Prods {
					if s == non(q.Head) {
						least = min(least, of[m])
					}
				}
				size += least
			}
			of[n] = min(size, never)
		}
	}
	return of
}

// wildTree is a tree of g, if it has one: it grows as it likes up to some number of nodes and to some depth, and then ends as soon as it can.
func wildTree(rng *rand.Rand, g api.Grammar, nodes, tall int) (api.Tree, bool) {
	sizes := leastSizes(g)
	var of func(s api.Sym, deep int) api.Tree
	of = func(s api.Sym, deep int) api.Tree {
		nodes--
		if s.Kind == api.Term {
			return token(0)
		}
		var may []int
		for n, p := range g.Prods {
			if p.Head == s.N && sizes[n] < never {
				may = append(may, n)
			}
		}
		n, other := may[rng.Intn(len(may))], may[rng.Intn(len(may))]
		if len(g.Prods[other].Body) > len(g.Prods[n].Body) {
			n = other
		}
		if nodes < 0 || deep >= tall {
			n = slices.MinFunc(may, func(a, b int) int { return sizes[a] - sizes[b] })
		}
		t := node(n)
		for _, below := range g.Prods[n].Body {
			t.Kids = append(t.Kids, of(below, deep+1))
		}
		return t
	}
	for n, p := range g.Prods {
		if p.Head == 0 && sizes[n] < 5000 {
			return numbered(of(non(0), 1)), true
		}
	}
	return api.Tree{}, false
}

// edges are numbers at both sides of the bounds.
func edges() []int {
	return []int{math.MinInt, -1 << 32, -2, -1, 0, 1, 2, 3, 4, 7, 8, 9, 19, 20, 21, 29, 30, 31, 39, 40, 41, 99, 100, 101, 999, 1000, 1001, 1<<32 - 1, 1 << 32, 1<<32 + 1, math.MaxInt}
}

// symbols has the terminals, then the nonterminals.
func symbols(terms, nons int) []api.Sym {
	var l []api.Sym
	for n := range terms {
		l = append(l, term(n))
	}
	for n := range nons {
		l = append(l, non(n))
	}
	return l
}

// small hands out all grammars with so many terminals and nonterminals that have up to so many productions of up to so many symbols.
func small(terms, nons, prods, width int, each func(g api.Grammar)) {
	bodies := smallBodies(terms, nons, width)
	var add func(g api.Grammar)
	add = func(g api.Grammar) {
		each(g)
		if len(g.Prods) == prods {
			return
		}
		for head := range nons {
			for _, body := range bodies {
				add(grammar(terms, nons, append(slices.Clone(g.Prods), prod(head, body...))...))
			}
		}
	}
	add(grammar(terms, nons))
}

// smallBodies has all lists of up to so many symbols.
func smallBodies(terms, nons, width int) [][]api.Sym {
	bodies := [][]api.Sym{nil}
	for from := 0; width > 0; width-- {
		to := len(bodies)
		for _, body := range bodies[from:to] {
			for _, s := range symbols(terms, nons) {
				bodies = append(bodies, append(slices.Clone(body), s))
			}
		}
		from = to
	}
	return bodies
}

// same: are these the same trees?
func same(a, b api.Tree) bool {
	return a.Prod == b.Prod && a.Tok == b.Tok && slices.EqualFunc(a.Kids, b.Kids, same)
}

// isZero: is t what is told beside an error?
func isZero(t api.Tree) bool { return t.Prod == 0 && t.Tok == 0 && t.Kids == nil }

// yields: is t a tree of g, with these terminals at its leaves?
func yields(t *testing.T, g api.Grammar, x api.Tree, want ...int) {
	t.Helper()
	if err := trees.Check(g, x); err != api.OK {
		t.Fatalf("Check(%s, %s): %d", show(g), show(x), err)
	}
	if word, err := trees.Yield(g, x); err != api.OK || !slices.Equal(word, want) {
		t.Fatalf("Yield(%s, %s): %v %d, not %v", show(g), show(x), word, err, want)
	}
}

// wrong: do all four calls tell that error of x, and nothing beside it?
func wrong(t *testing.T, g api.Grammar, x api.Tree, want api.Errno) {
	t.Helper()
	if err := trees.Check(g, x); err != want {
		t.Fatalf("Check(%s, %s): %d, not %d", show(g), show(x), err, want)
	}
	if word, err := trees.Yield(g, x); err != want || word != nil {
		t.Fatalf("Yield(%s, %s): %v %d, not %d", show(g), show(x), word, err, want)
	}
	if l, err := trees.Down(g, x); err != want || l != nil {
		t.Fatalf("Down(%s, %s): %v %d, not %d", show(g), show(x), l, err, want)
	}
	if l, err := trees.Up(g, x); err != want || l != nil {
		t.Fatalf("Up(%s, %s): %v %d, not %d", show(g), show(x), l, err, want)
	}
}

// tells: has x these events from the top, and those from below?
func tells(t *testing.T, g api.Grammar, x api.Tree, down, up []api.Event) {
	t.Helper()
	if l, err := trees.Down(g, x); err != api.OK || !slices.Equal(l, down) {
		t.Fatalf("Down(%s, %s): %s %d, not %s", show(g), show(x), show(l), err, show(down))
	}
	if l, err := trees.Up(g, x); err != api.OK || !slices.Equal(l, up) {
		t.Fatalf("Up(%s, %s): %s %d, not %s", show(g), show(x), show(l), err, show(up))
	}
}

// plainly: do the four calls that are given a tree answer as the second reading does?
func plainly(t *testing.T, g api.Grammar, x api.Tree) api.Errno {
	t.Helper()
	word, err := plainYield(g, x)
	if err != api.OK {
		wrong(t, g, x, err)
		return err
	}
	yields(t, g, x, word...)
	tells(t, g, x, plainDown(x), plainUp(x))
	return err
}

// of is one of the two calls that read events.
type of struct {
	name  string
	call  func(g api.Grammar, l []api.Event) (api.Tree, api.Errno)
	plain func(g api.Grammar, l []api.Event) (api.Tree, api.Errno)
}

func ofDown() of { return of{"OfDown", trees.OfDown, plainOfDown} }

func ofUp() of { return of{"OfUp", trees.OfUp, plainOfUp} }

// reads: are these the events of that tree?
func (o of) reads(t *testing.T, g api.Grammar, l []api.Event, want api.Tree) {
	t.Helper()
	if x, err := o.call(g, l); err != api.OK || !same(x, want) {
		t.Fatalf("%s(%s, %s): %s %d, not %s", o.name, show(g), show(l), show(x), err, show(want))
	}
}

// fails: are these events refused with that error, and nothing told beside it?
func (o of) fails(t *testing.T, g api.Grammar, l []api.Event, want api.Errno) {
	t.Helper()
	if x, err := o.call(g, l); err != want || !isZero(x) {
		t.Fatalf("%s(%s, %s): %s %d, not %d", o.name, show(g), show(l), show(x), err, want)
	}
}

// plainly: does it answer as the second reading does?
func (o of) plainly(t *testing.T, g api.Grammar, l []api.Event) api.Errno {
	t.Helper()
	want, err := o.plain(g, l)
	if err != api.OK {
		o.fails(t, g, l, err)
	} else {
		o.reads(t, g, l, want)
	}
	return err
}

// refused: do all calls refuse this grammar with that error, whatever is beside it?
func refused(t *testing.T, g api.Grammar, want api.Errno) {
	t.Helper()
	for _, x := range []api.Tree{{}, token(0), tree("1(. 0() .)"), bush(1000), bush(1001), chain(1, 100, node(0)), node(77, node(99))} {
		wrong(t, g, x, want)
	}
	for _, s := range []string{"", "o0 c0", "o1 t0 o0 c0 t1 c1", "r0", "t0 r0 t1 r1", "c9 r9"} {
		ofDown().fails(t, g, events(s), want)
		ofUp().fails(t, g, events(s), want)
	}
	for _, many := range []int{2000, 2001, 5000} {
		ofDown().fails(t, g, make([]api.Event, many), want)
		ofUp().fails(t, g, make([]api.Event, many), want)
	}
}
