package count_test

import (
	"fmt"
	"math"
	"math/rand"
	"slices"
	"strings"
	"testing"

	"pushmill/api"
	"pushmill/cfg"
	"pushmill/count"
	"pushmill/trees"
)

// What follows makes grammars and words, and reads the chapter otherwise than the program does.

func term(n int) api.Sym { return api.Sym{Kind: api.Term, N: n} }

func non(n int) api.Sym { return api.Sym{Kind: api.Non, N: n} }

func prod(head int, body ...api.Sym) api.Prod { return api.Prod{Head: head, Body: body} }

func grammar(terms, nons int, prods ...api.Prod) api.Grammar {
	return api.Grammar{Terms: terms, Nons: nons, Prods: prods}
}

// brackets are pairs of t0 and t1, one within the other.
func brackets() api.Grammar {
	return grammar(2, 1, prod(0), prod(0, term(0), non(0), term(1)))
}

// pairs has a tree for each way to put brackets round some t0.
func pairs() api.Grammar {
	return grammar(1, 1, prod(0, non(0), non(0)), prod(0, term(0)))
}

// must is the grammar of a text.
func must(t *testing.T, s string) api.Grammar {
	t.Helper()
	g, at, err := cfg.Read(s)
	if err != api.OK {
		t.Fatalf("Read(%q): %d %d", s, at, err)
	}
	return g
}

// show tells of a thing, which may be great.
func show(thing any) string {
	s := fmt.Sprint(thing)
	if len(s) > 1500 {
		s = s[:1500] + fmt.Sprintf("... (of %d bytes)", len(s))
	}
	return s
}

// word is written as a text, a digit or a letter for each terminal.
func word(s string) []int {
	l := []int{}
	for i := range len(s) {
		l = append(l, strings.IndexByte(letters, s[i]))
	}
	return l
}

// letters stand for the terminals.
const letters = "0123456789abcdefghijklmnopqrstuvwxyz"

// text is how a word is written.
func text(l []int) string {
	s := ""
	for _, n := range l {
		s += letters[n : n+1]
	}
	return s
}

func node(prod int, kids ...api.Tree) api.Tree { return api.Tree{Prod: prod, Kids: kids} }

func token(n int) api.Tree { return api.Tree{Prod: -1, Tok: n} }

// same: are these the same trees?
func same(a, b api.Tree) bool {
	return a.Prod == b.Prod && a.Tok == b.Tok && slices.EqualFunc(a.Kids, b.Kids, same)
}

// isZero: is x what is told beside an error?
func isZero(x api.Tree) bool { return x.Prod == 0 && x.Tok == 0 && x.Kids == nil }

// numbered is x, in new memory, with the numbers that its leaves must have.
func numbered(x api.Tree) api.Tree {
	leaves := 0
	var of func(x api.Tree) api.Tree
	of = func(x api.Tree) api.Tree {
		if x.Prod == -1 {
			leaves++
			return token(leaves - 1)
		}
		kids := make([]api.Tree, len(x.Kids))
		for i := range kids {
			kids[i] = of(x.Kids[i])
		}
		return node(x.Prod, kids...)
	}
	return of(x)
}

// yield has the terminals of x in order, whatever its size.
func yield(g api.Grammar, x api.Tree) []int {
	l := []int{}
	for i, s := range g.Prods[x.Prod].Body {
		if s.Kind == api.Term {
			l = append(l, s.N)
		} else {
			l = append(l, yield(g, x.Kids[i])...)
		}
	}
	return l
}

// sizeOf is how many nodes a tree has.
func sizeOf(x api.Tree) int {
	n := 1
	for _, kid := range x.Kids {
		n += sizeOf(kid)
	}
	return n
}

// uses tells of each number which productions x has, and how often.
func uses(x api.Tree, of map[int]int) map[int]int {
	of[x.Prod]++
	for _, kid := range x.Kids {
		uses(kid, of)
	}
	return of
}

// allTrees has all trees that stand for s and have no more nodes than most, with leaves that have no numbers yet.
func allTrees(g api.Grammar, s api.Sym, most int) []api.Tree {
	if most <= 0 {
		return nil
	}
	if s.Kind == api.Term {
		return []api.Tree{token(0)}
	}
	var l []api.Tree
	for n, p := range g.Prods {
		if p.Head == s.N {
			for _, kids := range allKids(g, p.Body, most-1) {
				l = append(l, node(n, kids...))
			}
		}
	}
	return l
}

// allKids has all lists of trees that stand for a Body, with no more nodes in all than most.
func allKids(g api.Grammar, body []api.Sym, most int) [][]api.Tree {
	if len(body) == 0 {
		return [][]api.Tree{nil}
	}
	var l [][]api.Tree
	for _, first := range allTrees(g, body[0], most-len(body)+1) {
		for _, rest := range allKids(g, body[1:], most-sizeOf(first)) {
			l = append(l, append([]api.Tree{first}, rest...))
		}
	}
	return l
}

// counts has of some texts how many trees each has, 2 for more; what has none is left out.
type counts map[string]int

// treesOf counts for each nonterminal the trees of each text that is wanted, higher and higher ones, till nothing is new. Each piece
// of a text that is wanted must be wanted, too.
func treesOf(g api.Grammar, wanted func(s string) bool) []counts {
	made := make([]counts, g.Nons)
	for {
		next := make([]counts, g.Nons)
		for n := range next {
			next[n] = counts{}
		}
		for _, p := range g.Prods {
			for w, n := range bodyTrees(p.Body, made, wanted) {
				next[p.Head][w] = min(2, next[p.Head][w]+n)
			}
		}
		if fmt.Sprint(made) == fmt.Sprint(next) {
			return made
		}
		made = next
	}
}

// bodyTrees counts lists of trees that stand for a Body, from its last symbol on.
func bodyTrees(body []api.Sym, made []counts, wanted func(s string) bool) counts {
	l := counts{"": 1}
	for _, s := range slices.Backward(body) {
		ahead := counts{letters[s.N : s.N+1]: 1}
		if s.Kind == api.Non {
			ahead = made[s.N]
		}
		longer := counts{}
		for x, a := range ahead {
			for y, b := range l {
				if wanted(x + y) {
					longer[x+y] = min(2, longer[x+y]+a*b)
				}
			}
		}
		l = longer
	}
	return l
}

// plainTrees counts the trees of one word, by those of its pieces.
func plainTrees(g api.Grammar, l []int) int {
	s := text(l)
	pieces := map[string]bool{}
	for i := range len(s) + 1 {
		for j := i; j <= len(s); j++ {
			pieces[s[i:j]] = true
		}
	}
	return treesOf(g, func(x string) bool { return pieces[x] })[0][s]
}

// upTo wants the texts that are not longer than most.
func upTo(most int) func(s string) bool {
	return func(s string) bool { return len(s) <= most }
}

// useful has those productions of g all of whose symbols make something.
func useful(g api.Grammar) api.Grammar {
	makes := map[api.Sym]bool{}
	for n := range g.Terms {
		makes[term(n)] = true
	}
	all := func(p api.Prod) bool {
		return !slices.ContainsFunc(p.Body, func(s api.Sym) bool { return !makes[s] })
	}
	for range g.Nons {
		for _, p := range g.Prods {
			if all(p) {
				makes[non(p.Head)] = true
			}
		}
	}
	var l []api.Prod
	for _, p := range g.Prods {
		if all(p) {
			l = append(l, p)
		}
	}
	return grammar(g.Terms, g.Nons, l...)
}

// spot is a production that is under way: how much of it has been had, and where it began.
type spot struct{ prod, dot, from int }

// spots are all that may be under way at one place.
type spots map[spot]bool

// plainBegins reads from the left, and has at each place all that may be under way there; where all productions are useful, a word is
// a beginning if there is anything.
func plainBegins(g api.Grammar, l []int) bool {
	g = useful(g)
	at := make([]spots, len(l)+1)
	at[0] = spots{}
	for n, p := range g.Prods {
		if p.Head == 0 {
			at[0][spot{n, 0, 0}] = true
		}
	}
	for i := range at {
		closeSpots(g, at, i)
		if i == len(l) {
			break
		}
		at[i+1] = spots{}
		for s := range at[i] {
			if body := g.Prods[s.prod].Body; s.dot < len(body) && body[s.dot] == term(l[i]) {
				at[i+1][spot{s.prod, s.dot + 1, s.from}] = true
			}
		}
	}
	return len(at[len(l)]) > 0
}

// closeSpots adds at place i what begins there and what has ended there, till nothing is new.
func closeSpots(g api.Grammar, at []spots, i int) {
	for {
		had := len(at[i])
		next := spots{}
		for s := range at[i] {
			p := g.Prods[s.prod]
			if s.dot < len(p.Body) {
				for n, q := range g.Prods {
					if p.Body[s.dot] == non(q.Head) {
						next[spot{n, 0, i}] = true
					}
				}
				continue
			}
			for o := range at[s.from] {
				if body := g.Prods[o.prod].Body; o.dot < len(body) && body[o.dot] == non(p.Head) {
					next[spot{o.prod, o.dot + 1, o.from}] = true
				}
			}
		}
		for s := range next {
			at[i][s] = true
		}
		if len(at[i]) == had {
			return
		}
	}
}

// allWords has all words of so many terminals that are not longer than most.
func allWords(terms, most int) [][]int {
	l := [][]int{{}}
	for from := 0; most > 0; most-- {
		to := len(l)
		for _, w := range l[from:to] {
			for n := range terms {
				l = append(l, append(slices.Clone(w), n))
			}
		}
		from = to
	}
	return l
}

// symbols has the terminals, then the nonterminals.
func symbols(terms, nons int) []api.Sym {
	var l []api.Sym
	for n := range terms {
		l = append(l, term(n))
	}
	for n := range nons {
		l = append(l, non(n))
	}
	return l
}

// small hands out all grammars with so many terminals and nonterminals that have up to so many productions of up to so many symbols.
func small(terms, nons, prods, width int, each func(g api.Grammar)) {
	bodies := smallBodies(terms, nons, width)
	var add func(g api.Grammar)
	add = func(g api.Grammar) {
		each(g)
		if len(g.Prods) == prods {
			return
		}
		for head := range nons {
			for _, body := range bodies {
				add(grammar(terms, nons, append(slices.Clone(g.Prods), prod(head, body...))...))
			}
		}
	}
	add(grammar(terms, nons))
}

// smallBodies has all lists of up to so many symbols.
func smallBodies(terms, nons, width int) [][]api.Sym {
	bodies := [][]api.Sym{nil}
	for from := 0; width > 0; width-- {
		to := len(bodies)
		for _, body := range bodies[from:to] {
			for _, s := range symbols(terms, nons) {
				bodies = append(bodies, append(slices.Clone(body), s))
			}
		}
		from = to
	}
	return bodies
}

// wild is a grammar that is right, with productions no wider than that, and so many of ten symbols terminals.
func wild(rng *rand.Rand, terms, nons, prods, width, often int) api.Grammar {
	g := grammar(terms, nons)
	for range prods {
		p := prod(rng.Intn(nons))
		for range rng.Intn(width + 1) {
			s := non(rng.Intn(nons))
			if terms > 0 && rng.Intn(10) < often {
				s = term(rng.Intn(terms))
			}
			p.Body = append(p.Body, s)
		}
		g.Prods = append(g.Prods, p)
	}
	return g
}

// wildOne is one of any size that there may be.
func wildOne(rng *rand.Rand) api.Grammar {
	return wild(rng, rng.Intn(31), 1+rng.Intn(20), rng.Intn(41), rng.Intn(9), rng.Intn(10))
}

// wildWord is any word of g of up to so many terminals.
func wildWord(rng *rand.Rand, g api.Grammar, most int) []int {
	l := []int{}
	for range rng.Intn(most+1) * min(1, g.Terms) {
		l = append(l, rng.Intn(g.Terms))
	}
	return l
}

// never stands for the size of a tree that there is not.
const never = 1 << 20

// leastSizes has of each production how many nodes its least tree has.
func leastSizes(g api.Grammar) []int {
	of := slices.Repeat([]int{never}, len(g.Prods))
	for range len(g.Prods) + 1 {
		for n, p := range g.Prods {
			size := 1
			for _, s := range p.Body {
				least := 1
				if s.Kind == api.Non {
					least = never
				}
				for m, q := range g.Prods {
					if s == non(q.Head) {
						least = min(least, of[m])
					}
				}
				size += least
			}
			of[n] = min(size, never)
		}
	}
	return of
}

// grown is a tree of g, if it has one: it grows as it likes up to some number of nodes, and then ends as soon as it can.
func grown(rng *rand.Rand, g api.Grammar, nodes int) (api.Tree, bool) {
	sizes := leastSizes(g)
	var of func(s api.Sym) api.Tree
	of = func(s api.Sym) api.Tree {
		nodes--
		if s.Kind == api.Term {
			return token(0)
		}
		var may []int
		for n, p := range g.Prods {
			if p.Head == s.N && sizes[n] < never {
				may = append(may, n)
			}
		}
		n := may[rng.Intn(len(may))]
		if nodes < 0 {
			n = slices.MinFunc(may, func(a, b int) int { return sizes[a] - sizes[b] })
		}
		x := node(n)
		for _, below := range g.Prods[n].Body {
			x.Kids = append(x.Kids, of(below))
		}
		return x
	}
	for n, p := range g.Prods {
		if p.Head == 0 && sizes[n] < 900 {
			return numbered(of(non(0))), true
		}
	}
	return api.Tree{}, false
}

// edges are numbers at both sides of the bounds.
func edges() []int {
	return []int{math.MinInt, -1 << 32, -2, -1, 0, 1, 2, 3, 7, 8, 9, 19, 20, 21, 29, 30, 31, 39, 40, 41, 63, 64, 1<<32 - 1, 1 << 32, 1<<32 + 1, math.MaxInt}
}

// has: has that word so many trees, 2 standing for more?
func has(t *testing.T, g api.Grammar, l []int, want int) {
	t.Helper()
	if n, err := count.Trees(g, l); n != want || err != api.OK {
		t.Fatalf("Trees(%s, %v): %d %d, not %d", show(g), l, n, err, want)
	}
}

// begins: is it told of that word whether it is a beginning?
func begins(t *testing.T, g api.Grammar, l []int, want bool) {
	t.Helper()
	if is, err := count.Begins(g, l); is != want || err != api.OK {
		t.Fatalf("Begins(%s, %v): %v %d, not %v", show(g), l, is, err, want)
	}
}

// only: is that the only tree?
func only(t *testing.T, g api.Grammar, l []int, want api.Tree) {
	t.Helper()
	if x, err := count.Only(g, l); !same(x, want) || err != api.OK {
		t.Fatalf("Only(%s, %v): %s %d, not %s", show(g), l, show(x), err, show(want))
	}
}

// noOnly: is there no tree to be told of, but that error?
func noOnly(t *testing.T, g api.Grammar, l []int, want api.Errno) {
	t.Helper()
	if x, err := count.Only(g, l); !isZero(x) || err != want {
		t.Fatalf("Only(%s, %v): %s %d, not %d", show(g), l, show(x), err, want)
	}
}

// counted: has that word so many trees, and does Only answer as it must then?
func counted(t *testing.T, g api.Grammar, l []int, want int) {
	t.Helper()
	has(t, g, l, want)
	switch want {
	case 0:
		noOnly(t, g, l, api.ErrNone)
	case 2:
		noOnly(t, g, l, api.ErrClash)
	default:
		x, err := count.Only(g, l)
		if err == api.ErrLarge || err == api.ErrDeep {
			noOnly(t, g, l, err)
			return
		}
		if w, bad := trees.Yield(g, x); err != api.OK || bad != api.OK || !slices.Equal(w, l) {
			t.Fatalf("Only(%s, %v): %s %d, which has %v %d", show(g), l, show(x), err, w, bad)
		}
	}
}

// refused: do all calls refuse that with this error, and tell nothing beside it?
func refused(t *testing.T, g api.Grammar, l []int, want api.Errno) {
	t.Helper()
	if n, err := count.Trees(g, l); n != 0 || err != want {
		t.Fatalf("Trees(%s, %s): %d %d, not %d", show(g), show(l), n, err, want)
	}
	if is, err := count.Begins(g, l); is || err != want {
		t.Fatalf("Begins(%s, %s): %v %d, not %d", show(g), show(l), is, err, want)
	}
	noOnly(t, g, l, want)
}

// wrong is what is wrong with g, or with a word, first.
func wrong(g api.Grammar, l []int) api.Errno {
	if err := cfg.Check(g); err != api.OK {
		return err
	}
	if len(l) > 20 {
		return api.ErrLarge
	}
	if slices.ContainsFunc(l, func(n int) bool { return n < 0 || n >= g.Terms }) {
		return api.ErrArg
	}
	return api.OK
}
