package count_test

import (
	"fmt"
	"testing"

	"pushmill/api"
	"pushmill/count"
	"pushmill/trees"
)

func TestP42KnownTrees(t *testing.T) {
	one := node(1, token(0), node(0), token(1))
	only(t, brackets(), nil, node(0))
	only(t, brackets(), word("01"), one)
	only(t, brackets(), word("0011"), node(1, token(0), node(1, token(1), node(0), token(2)), token(3)))
	only(t, pairs(), word("00"), node(0, node(1, token(0)), node(1, token(1))))
	noOnly(t, pairs(), nil, api.ErrNone)
	noOnly(t, pairs(), word("000"), api.ErrClash)
	noOnly(t, brackets(), word("10"), api.ErrNone)
	sums := must(t, "3 2\n0: n0 t1 n1\n0: n1\n1: t0\n1: t2 n0\n")
	only(t, sums, word("01010"), node(0, node(0, node(1, node(2, token(0))), token(1), node(2, token(2))), token(3), node(2, token(4))))
	only(t, sums, word("0120"), node(0, node(1, node(2, token(0))), token(1), node(3, token(2), node(1, node(2, token(3))))))
	noOnly(t, sums, word("2010"), api.ErrClash)
	noOnly(t, sums, word("01"), api.ErrNone)
}

// Where each symbol begins is told by the one way in which the word can be cut.
func TestP42Cuts(t *testing.T) {
	g := must(t, "2 4\n0: n1 n2 n3 n2\n1: t0 n1\n1:\n2:\n3: t1\n3: t1 t1\n2: t1 t0 t1\n")
	only(t, g, word("0001"), node(0, node(1, token(0), node(1, token(1), node(1, token(2), node(2)))), node(3), node(4, token(3)), node(3)))
	only(t, g, word("11"), node(0, node(2), node(3), node(5, token(0), token(1)), node(3)))
	only(t, g, word("1011"), node(0, node(2), node(6, token(0), token(1), token(2)), node(4, token(3)), node(3)))
	only(t, g, word("1101"), node(0, node(2), node(3), node(4, token(0)), node(6, token(1), token(2), token(3))))
	only(t, g, word("01011101"), node(0, node(1, token(0), node(2)), node(6, token(1), token(2), token(3)), node(4, token(4)), node(6, token(5), token(6), token(7))))
	noOnly(t, g, word("0101"), api.ErrNone)
}

// What has more than one tree is told so, however great these are.
func TestP42ClashComesAheadOfTheSize(t *testing.T) {
	for steps := 1; steps < 20; steps++ {
		noOnly(t, spread(0, steps), nil, api.ErrNone)
		noOnly(t, spread(2, steps), nil, api.ErrClash)
	}
	g := chainOf(20)
	noOnly(t, g, make([]int, 20), api.ErrDeep)
	noOnly(t, g, nil, api.ErrNone)
	g.Prods = append(g.Prods, g.Prods[0])
	noOnly(t, g, make([]int, 20), api.ErrClash)
}

// A tree of 8 to the power of 19 nodes is there, but is not told; nor does it take long to see that.
func TestP42TreesWithoutRoom(t *testing.T) {
	for steps := range 20 {
		x, err := count.Only(spread(1, steps), nil)
		switch {
		case steps < 4 && (err != api.OK || sizeOf(x) != []int{1, 9, 73, 585}[steps]):
			t.Errorf("Only of %d steps: %s %d", steps, show(x), err)
		case steps >= 4 && (err != api.ErrLarge || !isZero(x)):
			t.Errorf("Only of %d steps: %s %d", steps, show(x), err)
		}
	}
}

// chainOf makes lists of t0; ahead of each of them the tree goes through so many nonterminals.
func chainOf(nons int) api.Grammar {
	g := grammar(1, nons)
	for n := 1; n < nons; n++ {
		g.Prods = append(g.Prods, prod(n-1, non(n)))
	}
	return grammar(1, nons, append(g.Prods, prod(nons-1, term(0), non(0)), prod(nons-1, term(0)))...)
}

// chainTree is the tree of so many t0: each production has the number of its Head, but the last one, which ends the list, the next.
func chainTree(nons, many int) api.Tree {
	var x api.Tree
	for left := range many {
		if left == 0 {
			x = node(nons, token(0))
		} else {
			x = node(nons-1, token(0), x)
		}
		for n := nons - 2; n >= 0; n-- {
			x = node(n, x)
		}
	}
	return numbered(x)
}

// told: is x the only tree, or what trees.Check tells of it?
func told(t *testing.T, g api.Grammar, l []int, x api.Tree) api.Errno {
	t.Helper()
	has(t, g, l, 1)
	err := trees.Check(g, x)
	if err != api.OK {
		noOnly(t, g, l, err)
	} else {
		only(t, g, l, x)
	}
	return err
}

func TestP42DepthIsBounded(t *testing.T) {
	for nons := 1; nons <= 20; nons++ {
		for many := 1; many <= 20; many++ {
			want := api.OK
			if nons*many+1 > 100 {
				want = api.ErrDeep
			}
			if err := told(t, chainOf(nons), make([]int, many), chainTree(nons, many)); err != want {
				t.Errorf("%d nonterminals, %d terminals: %d", nons, many, err)
			}
		}
	}
}

// bush is a tree with so many nodes, all of them productions of up to eight Kids.
func bush(nodes int) api.Tree {
	x := node(0)
	kids := min(8, nodes-1)
	for left, i := nodes-1, kids; i > 0; i-- {
		n := left / i
		x.Kids = append(x.Kids, bush(n))
		left -= n
	}
	return x
}

// withLeaf is a bush with a leaf below its last node.
func withLeaf(nodes int) api.Tree {
	x := bush(nodes)
	last := &x
	for len(last.Kids) > 0 {
		last = &last.Kids[len(last.Kids)-1]
	}
	last.Kids = []api.Tree{token(0)}
	return x
}

// grammarOf has a nonterminal with one production for each different production in x, numbered from add on; x is told with
// the productions that it has there.
func grammarOf(x api.Tree, add int) (api.Grammar, api.Tree) {
	g := grammar(1, add)
	known := map[string]int{}
	var of func(x api.Tree) (api.Sym, api.Tree)
	of = func(x api.Tree) (api.Sym, api.Tree) {
		if x.Prod == -1 {
			return term(0), x
		}
		n, ok := known[fmt.Sprint(x)]
		if !ok {
			n = g.Nons
			known[fmt.Sprint(x)] = n
			g.Nons++
			g.Prods = append(g.Prods, prod(n))
		}
		var body []api.Sym
		made := node(n - add)
		for _, kid := range x.Kids {
			s, below := of(kid)
			body, made.Kids = append(body, s), append(made.Kids, below)
		}
		g.Prods[n-add].Body = body
		return non(n), made
	}
	_, made := of(x)
	return g, made
}

func TestP42NodesAreBounded(t *testing.T) {
	for _, nodes := range []int{1, 2, 8, 9, 10, 100, 500, 998, 999, 1000, 1001, 1002, 1003, 2000, 5000} {
		want := api.OK
		if nodes > 1000 {
			want = api.ErrLarge
		}
		g, x := grammarOf(bush(nodes), 0)
		if err := told(t, g, nil, x); err != want || sizeOf(x) != nodes {
			t.Errorf("%d nodes: %d", nodes, err)
		}
	}
	for nodes := 990; nodes < 1010; nodes++ {
		want := api.OK
		if nodes+1 > 1000 {
			want = api.ErrLarge
		}
		g, x := grammarOf(withLeaf(nodes), 0)
		if err := told(t, g, []int{0}, x); err != want || sizeOf(x) != nodes+1 {
			t.Errorf("%d nodes and a leaf: %d", nodes, err)
		}
	}
}

// renumbered is x with greater numbers of productions.
func renumbered(x api.Tree, by int) api.Tree {
	if x.Prod == -1 {
		return x
	}
	more := node(x.Prod + by)
	for _, kid := range x.Kids {
		more.Kids = append(more.Kids, renumbered(kid, by))
	}
	return more
}

// behind is p with nonterminals of the next numbers.
func behind(p api.Prod) api.Prod {
	next := prod(p.Head + 1)
	for _, s := range p.Body {
		if s.Kind == api.Non {
			s.N++
		}
		next.Body = append(next.Body, s)
	}
	return next
}

// beside has two Kids, a bush and a chain through nine nonterminals ahead of each of 11 t0, either ahead of the other; the last leaf
// alone is too deep: 101.
func beside(nodes int, bushFirst bool) (api.Grammar, api.Tree) {
	some, x := grammarOf(bush(nodes), 10)
	g := grammar(1, some.Nons, prod(0))
	for _, p := range chainOf(9).Prods {
		g.Prods = append(g.Prods, behind(p))
	}
	y := renumbered(chainTree(9, 11), 1)
	x = renumbered(x, len(g.Prods))
	g.Prods = append(g.Prods, some.Prods...)
	if bushFirst {
		g.Prods[0].Body = []api.Sym{non(10), non(1)}
		return g, node(0, x, y)
	}
	g.Prods[0].Body = []api.Sym{non(1), non(10)}
	return g, node(0, y, x)
}

// Of a tree that is too large and too deep it is told what comes first in it.
func TestP42TooLargeOrTooDeep(t *testing.T) {
	for _, nodes := range []int{1, 2, 50, 500, 800, 887, 888, 889, 890, 891, 1000, 1001, 2000, 3000} {
		g, x := beside(nodes, true)
		want := api.ErrDeep
		if 1+nodes+110 > 1000 { // the last node, the only one that is too deep, is one too many
			want = api.ErrLarge
		}
		if err := told(t, g, make([]int, 11), x); err != want {
			t.Errorf("behind a bush of %d nodes: %d", nodes, err)
		}
		g, x = beside(nodes, false)
		if err := told(t, g, make([]int, 11), x); err != api.ErrDeep {
			t.Errorf("ahead of a bush of %d nodes: %d", nodes, err)
		}
	}
}

// All only trees of small grammars are those that are found among all trees of up to some number of nodes.
func TestP42OnlyTreesAreThoseThatAreFound(t *testing.T) {
	tried := 0
	try := func(g api.Grammar, most int) {
		for _, x := range allTrees(g, non(0), most) {
			x = numbered(x)
			if n, err := count.Trees(g, yield(g, x)); n == 1 && err == api.OK {
				only(t, g, yield(g, x), x)
				tried++
			}
		}
	}
	small(1, 1, 3, 2, func(g api.Grammar) { try(g, 9) })
	small(2, 1, 2, 3, func(g api.Grammar) { try(g, 9) })
	small(2, 2, 2, 2, func(g api.Grammar) { try(g, 9) })
	small(1, 2, 3, 2, func(g api.Grammar) { try(g, 8) })
	if tried < 5000 {
		t.Errorf("only %d trees were tried", tried)
	}
}
