package trees_test

import (
	"fmt"
	"math"
	"math/rand"
	"slices"
	"testing"

	"pushmill/api"
	"pushmill/trees"
)

func TestP39KnownTrees(t *testing.T) {
	pair := tree("1(. 0() .)")
	if n := count(pair); n != 4 {
		t.Errorf("%d nodes", n)
	}
	yields(t, brackets(), pair, 0, 1)
	yields(t, brackets(), tree("0()"))
	yields(t, brackets(), tree("1(. 1(. 1(. 0() .) .) .)"), 0, 0, 0, 1, 1, 1)
	yields(t, two(), tree("3(. .)"), 0, 0)
	yields(t, two(), tree("0(. 1() 1())"), 2)
	yields(t, two(), tree("0(. 2(3(. .) .) 2(0(. 5(4()) 1()) .))"), 2, 0, 0, 1, 2, 1)
	yields(t, two(), tree("0(. 5(6(6(4()))) 1())"), 2)
	sums := must(t, "3 2\n0: n0 t1 n1\n0: n1\n1: t0\n1: t2 n0\n")
	yields(t, sums, tree("0(0(1(2(.)) . 2(.)) . 3(. 1(2(.))))"), 0, 1, 0, 1, 2, 0)
	yields(t, forest(), tree("4(0() 3(.) 2(3(.) 0()) 1(1(3(.))) 0() 0() 0() 3(.))"), 0, 0, 0, 0)
}

func TestP39WholeIsOfTheFirstNonterminal(t *testing.T) {
	g := must(t, "2 2\n1: t0\n0: n1\n0: t1\n")
	yields(t, g, tree("1(0(.))"), 0)
	yields(t, g, tree("2(.)"), 1)
	wrong(t, g, tree("0(.)"), api.ErrForm)
	wrong(t, g, token(0), api.ErrForm)
	wrong(t, g, api.Tree{}, api.ErrForm)
	wrong(t, grammar(1, 1), api.Tree{}, api.ErrForm)
	wrong(t, grammar(1, 1), token(0), api.ErrForm)
	yields(t, grammar(0, 1, prod(0)), api.Tree{})
}

func TestP39WhatIsNoProduction(t *testing.T) {
	for _, n := range edges() {
		if n != 0 {
			wrong(t, brackets(), node(n), api.ErrForm)
			wrong(t, brackets(), node(1, token(0), node(n), token(1)), api.ErrForm)
		}
		if n != 1 {
			wrong(t, brackets(), node(n, token(0), node(0), token(1)), api.ErrForm)
		}
		if n != -1 {
			wrong(t, brackets(), node(1, node(n), node(0), token(1)), api.ErrForm)
		}
	}
	yields(t, brackets(), node(0))
	yields(t, brackets(), node(1, node(-1), node(0), token(1)), 0, 1)
}

func TestP39TokOfAProductionIsZero(t *testing.T) {
	for _, n := range edges() {
		want := api.ErrForm
		if n == 0 {
			want = api.OK
		}
		for _, x := range []api.Tree{
			{Prod: 0, Tok: n},
			{Prod: 1, Tok: n, Kids: tree("1(. 0() .)").Kids},
			node(1, token(0), api.Tree{Prod: 0, Tok: n}, token(1)),
		} {
			if err := plainly(t, brackets(), x); err != want {
				t.Errorf("%v: %d", x, err)
			}
		}
	}
}

func TestP39LeavesAreNumbered(t *testing.T) {
	g := must(t, "2 2\n0: t0 n1 t1\n1: t1 t1\n1:\n")
	for a := -2; a < 6; a++ {
		for b := -2; b < 6; b++ {
			for c := -2; c < 6; c++ {
				for d := -2; d < 6; d++ {
					x := node(0, token(a), node(1, token(b), token(c)), token(d))
					if a == 0 && b == 1 && c == 2 && d == 3 {
						yields(t, g, x, 0, 1, 1, 1)
					} else {
						wrong(t, g, x, api.ErrForm)
					}
				}
			}
		}
	}
	for _, n := range edges() {
		if n != 1 {
			wrong(t, g, node(0, token(0), node(2), token(n)), api.ErrForm)
		}
	}
	yields(t, g, node(0, token(0), node(2), token(1)), 0, 1)
}

func TestP39LeavesHaveNoKids(t *testing.T) {
	g := must(t, "1 1\n0: t0\n0: t0 t0\n0:\n")
	for _, kids := range [][]api.Tree{{token(0)}, {token(1)}, {node(2)}, {node(0, token(0))}, make([]api.Tree, 9)} {
		wrong(t, g, node(0, api.Tree{Prod: -1, Kids: kids}), api.ErrForm)
		wrong(t, g, node(1, token(0), api.Tree{Prod: -1, Tok: 1, Kids: kids}), api.ErrForm)
	}
	yields(t, g, node(0, api.Tree{Prod: -1, Kids: []api.Tree{}}), 0)
	yields(t, g, api.Tree{Prod: 2, Kids: []api.Tree{}})
}

func TestP39AKidForEachSymbol(t *testing.T) {
	for _, s := range []string{
		"1()", "1(.)", "1(. 0())", "1(. .)", "1(0() .)", "1(. 0() . .)", "1(. 0() . 0())", "1(. . 0())", "1(0() . .)", "1(. . .)",
		"1(0() 0() 0())", "1(. 0() 0())", "0(.)", "0(0())", "0(. 0() .)", "1(. 1() .)", "1(. 1(. 0()) .)", "1(. 0(0()) .)", "1(. 0(.) .)",
	} {
		wrong(t, brackets(), tree(s), api.ErrForm)
	}
	for n := range 12 {
		x := node(4, slices.Repeat([]api.Tree{node(0)}, n)...)
		if n == 8 {
			yields(t, forest(), x)
		} else {
			wrong(t, forest(), x, api.ErrForm)
		}
	}
}

func TestP39KidsAreOfTheirNonterminals(t *testing.T) {
	for _, s := range []string{
		"0(. 3(. .) 1())", "0(. 1() 0(. 1() 1()))", "0(. 4() 1())", "0(. 1() 4())", "0(. 5(1()) 1())", "0(. 5(3(. .)) 1())", "0(. 2(1() .) 1())", "1()", "4()",
		"6(4())", "2(3(. .) .)",
	} {
		wrong(t, two(), tree(s), api.ErrForm)
	}
}

func TestP39NodesAreBounded(t *testing.T) {
	for _, n := range []int{1, 2, 8, 9, 10, 100, 998, 999, 1000} {
		if x := bush(n); count(x) != n {
			t.Fatalf("%d nodes, not %d", count(x), n)
		}
		yields(t, forest(), bush(n))
	}
	for _, n := range []int{1001, 1002, 1500, 5000, 50000} {
		wrong(t, forest(), bush(n), api.ErrLarge)
	}
}

// withLeaf is a bush with a production of one leaf at its last node: the leaf is one node more.
func withLeaf(nodes int) api.Tree {
	x := bush(nodes)
	last := &x
	for len(last.Kids) > 0 {
		last = &last.Kids[len(last.Kids)-1]
	}
	*last = node(3, token(0))
	return x
}

func TestP39LeavesAreNodes(t *testing.T) {
	yields(t, forest(), withLeaf(1), 0)
	yields(t, forest(), withLeaf(998), 0)
	yields(t, forest(), withLeaf(999), 0)
	wrong(t, forest(), withLeaf(1000), api.ErrLarge)
	yields(t, forest(), node(1, chain(1, 97, node(3, token(0)))), 0)
	wrong(t, forest(), node(1, chain(1, 98, node(3, token(0)))), api.ErrDeep)
	eight := node(4, slices.Repeat([]api.Tree{node(3, token(0))}, 8)...)
	sixty := node(4, slices.Repeat([]api.Tree{eight}, 8)...)
	yields(t, forest(), numbered(sixty), make([]int, 64)...)                                                              // 137 nodes
	yields(t, forest(), numbered(node(4, append(slices.Repeat([]api.Tree{sixty}, 7), bush(40))...)), make([]int, 448)...) // 1000
	wrong(t, forest(), numbered(node(4, append(slices.Repeat([]api.Tree{sixty}, 7), bush(41))...)), api.ErrLarge)
}

func TestP39DepthIsBounded(t *testing.T) {
	for _, n := range []int{0, 1, 50, 98, 99} {
		yields(t, forest(), chain(1, n, node(0)))
	}
	for _, n := range []int{100, 101, 200, 998, 999, 1000, 1001, 1 << 16} {
		wrong(t, forest(), chain(1, n, node(0)), api.ErrDeep)
	}
	deep := tree("0()")
	for range 99 {
		deep = node(1, token(0), deep, token(0))
	}
	yields(t, brackets(), numbered(deep), slices.Concat(make([]int, 99), slices.Repeat([]int{1}, 99))...)
	wrong(t, brackets(), numbered(node(1, token(0), deep, token(0))), api.ErrDeep)
	yields(t, forest(), node(2, node(0), chain(1, 98, node(0))))
	wrong(t, forest(), node(2, node(0), chain(1, 99, node(0))), api.ErrDeep)
}

func TestP39WhatIsWrongFirst(t *testing.T) {
	tall := func(n int, below api.Tree) api.Tree { return chain(1, n, below) }
	bad := node(9)
	for _, c := range []struct {
		tree api.Tree
		want api.Errno
	}{
		{node(2, bush(899), tall(98, node(0))), api.OK},       // 999 nodes, 100 deep
		{node(2, bush(900), tall(98, node(0))), api.OK},       // 1000 nodes
		{node(2, bush(901), tall(98, node(0))), api.ErrLarge}, // the 1001st is 100 deep
		{node(2, bush(899), tall(99, node(0))), api.ErrDeep},  // the 1000th is 101 deep
		{node(2, bush(900), tall(99, node(0))), api.ErrLarge}, // the 1001st is
		{node(2, bush(900), tall(99, bad)), api.ErrLarge},
		{node(2, bush(899), tall(99, bad)), api.ErrDeep},
		{node(2, bush(899), tall(98, bad)), api.ErrForm},
		{node(2, bush(900), tall(98, bad)), api.ErrForm}, // the 1000th is wrong
		{node(2, bush(901), tall(98, bad)), api.ErrLarge},
		{node(2, tall(99, node(0)), bush(2000)), api.ErrDeep},
		{node(2, bush(2000), tall(99, node(0))), api.ErrLarge},
		{node(2, bad, bush(2000)), api.ErrForm},
		{node(2, bush(2000), bad), api.ErrLarge},
		{node(2, bush(998), bad), api.ErrForm},
		{node(2, bush(999), bad), api.ErrLarge},
		{node(2, bad, tall(99, node(0))), api.ErrForm},
		{node(2, tall(99, node(0)), bad), api.ErrDeep},
		{tall(99, bad), api.ErrForm},
		{tall(100, bad), api.ErrDeep},
		{node(2, bush(2000)), api.ErrForm}, // it has a Kid too few, and is ahead of it
		{node(2, tall(200, node(0))), api.ErrForm},
		{node(1, bush(2000), bush(3)), api.ErrForm},
		{node(9, bush(2000)), api.ErrForm},
		{node(-1, tall(200, node(0))), api.ErrForm},
		{api.Tree{Prod: 1, Tok: 1, Kids: []api.Tree{tall(200, node(0))}}, api.ErrForm},
		{node(3, api.Tree{Prod: -1, Kids: []api.Tree{bush(2000)}}), api.ErrForm},
		{node(3, tall(200, node(0))), api.ErrForm},
	} {
		if err := plainly(t, forest(), c.tree); err != c.want {
			t.Errorf("%s: %d, not %d", show(c.tree), err, c.want)
		}
	}
}

func TestP39WrongGrammars(t *testing.T) {
	refused(t, grammar(-1, 1), api.ErrArg)
	refused(t, grammar(31, 1, prod(0)), api.ErrArg)
	refused(t, grammar(1, 0, prod(0)), api.ErrArg)
	refused(t, grammar(1, 21, prod(0)), api.ErrArg)
	refused(t, grammar(1, 1, prod(1)), api.ErrArg)
	refused(t, grammar(1, 1, prod(0), prod(0, term(1))), api.ErrArg)
	refused(t, grammar(1, 1, prod(0), prod(0, api.Sym{Kind: 3})), api.ErrArg)
	refused(t, grammar(1, 1, prod(0), prod(0, non(1))), api.ErrArg)
	refused(t, grammar(1, 1, slices.Repeat([]api.Prod{prod(0)}, 41)...), api.ErrLarge)
	refused(t, grammar(1, 1, prod(0), prod(0, slices.Repeat([]api.Sym{non(0)}, 9)...)), api.ErrLarge)
	refused(t, grammar(math.MaxInt, 1, slices.Repeat([]api.Prod{prod(0)}, 41)...), api.ErrArg)
}

// The greatest grammar has trees, too: the last production, terminal and nonterminal are some like others.
func TestP39GreatestGrammar(t *testing.T) {
	g := grammar(30, 20, prod(0, non(19), term(29)))
	for len(g.Prods) < 39 {
		g.Prods = append(g.Prods, prod(18))
	}
	g.Prods = append(g.Prods, prod(19, slices.Repeat([]api.Sym{term(29)}, 8)...))
	yields(t, g, numbered(node(0, node(39, slices.Repeat([]api.Tree{token(0)}, 8)...), token(0))), slices.Repeat([]int{29}, 9)...)
	wrong(t, g, node(0, node(38), token(0)), api.ErrForm)
	wrong(t, g, node(0, node(40), token(0)), api.ErrForm)
}

// allThings hands out all that has the form of an api.Tree, right or wrong, with up to so many nodes, whose Prods are from -1 to below prods, and whose Toks are from 0 to below toks.
func allThings(most, prods, toks int) []api.Tree {
	lists := make([][][]api.Tree, most) // of each number of nodes: all lists of trees that have so many in all
	lists[0] = [][]api.Tree{nil}
	var all []api.Tree
	ofSize := make([][]api.Tree, most+1)
	for n := 1; n <= most; n++ {
		for _, kids := range lists[n-1] {
			for p := -1; p < prods; p++ {
				for tok := range toks {
					ofSize[n] = append(ofSize[n], api.Tree{Prod: p, Tok: tok, Kids: kids})
				}
			}
		}
		all = append(all, ofSize[n]...)
		if n == most {
			break
		}
		for first := 1; first <= n; first++ {
			for _, x := range ofSize[first] {
				for _, rest := range lists[n-first] {
					lists[n] = append(lists[n], append([]api.Tree{x}, rest...))
				}
			}
		}
	}
	return all
}

// All things of a few nodes: right are just the trees that are grown from the grammar.
func TestP39AllSmallThings(t *testing.T) {
	tried := 0
	try := func(g api.Grammar, most int, things []api.Tree) {
		known := map[string]int{}
		for _, x := range allTrees(g, non(0), most) {
			known[fmt.Sprint(numbered(x))]++
		}
		for _, x := range things {
			right := known[fmt.Sprint(x)] > 0
			if (trees.Check(g, x) == api.OK) != right {
				t.Fatalf("Check(%s, %s): %d, but that it is one is %v", show(g), show(x), trees.Check(g, x), right)
			}
			if right {
				tried++
			}
			plainly(t, g, x)
			delete(known, fmt.Sprint(x))
		}
		if len(known) > 0 {
			t.Fatalf("%s: not tried: %v", show(g), known)
		}
	}
	three := allThings(3, 2, 2)
	small(1, 1, 2, 2, func(g api.Grammar) { try(g, 3, three) })
	small(1, 2, 2, 2, func(g api.Grammar) { try(g, 3, three) })
	try(brackets(), 4, allThings(4, 3, 2))
	try(must(t, "1 1\n0: t0 n0\n0: t0\n"), 4, allThings(4, 2, 3))
	try(must(t, "1 1\n0: t0 t0 t0\n0: n0 t0\n0: t0\n"), 4, allThings(4, 3, 3))
	if tried < 150 {
		t.Errorf("only %d trees were right", tried)
	}
}

// nodesOf has all nodes of t, those below first.
func nodesOf(t *api.Tree) []*api.Tree {
	var l []*api.Tree
	for i := range t.Kids {
		l = append(l, nodesOf(&t.Kids[i])...)
	}
	return append(l, t)
}

// patched is t, in new memory, with something changed at one of its nodes.
func patched(rng *rand.Rand, t api.Tree) api.Tree {
	t = copied(t)
	all := nodesOf(&t)
	x, other := all[rng.Intn(len(all))], copied(*all[rng.Intn(len(all))])
	switch rng.Intn(8) {
	case 0:
		x.Prod = edges()[rng.Intn(len(edges()))]
	case 1:
		x.Prod = rng.Intn(12) - 1
	case 2:
		x.Tok = edges()[rng.Intn(len(edges()))]
	case 3:
		x.Tok += rng.Intn(3) - 1
	case 4:
		x.Kids = append(x.Kids, other)
	case 5:
		x.Kids = x.Kids[:rng.Intn(len(x.Kids)+1)]
	case 6:
		rng.Shuffle(len(x.Kids), func(i, j int) { x.Kids[i], x.Kids[j] = x.Kids[j], x.Kids[i] })
	case 7:
		*x = other
	}
	return t
}

func TestP39Samples(t *testing.T) {
	rng := rand.New(rand.NewSource(1))
	told := map[api.Errno]int{}
	leaves := 0
	for range 6000 {
		g := wild(rng, 1+rng.Intn(4), 1+rng.Intn(5), 1+rng.Intn(12), 1+rng.Intn(8), rng.Intn(10))
		x, ok := wildTree(rng, g, []int{1, 5, 20, 60, 300, 900, 1200}[rng.Intn(7)], []int{5, 20, 90, 100, 200}[rng.Intn(5)])
		if !ok {
			continue
		}
		told[plainly(t, g, x)]++
		word, _ := trees.Yield(g, x)
		leaves += len(word)
		for range 3 {
			told[plainly(t, g, patched(rng, x))]++
		}
	}
	if told[api.OK] < 1000 || told[api.ErrForm] < 1000 || told[api.ErrLarge] < 100 || told[api.ErrDeep] < 100 || leaves < 10000 {
		t.Errorf("told: %v, with %d leaves", told, leaves)
	}
}

// wordsOf has the words of each nonterminal that are not longer than most, each terminal a byte. Bodies are put in till nothing is new.
func wordsOf(g api.Grammar, most int) []map[string]bool {
	made := make([]map[string]bool, g.Nons)
	for n := range made {
		made[n] = map[string]bool{}
	}
	for grown := true; grown; {
		grown = false
		for _, p := range g.Prods {
			l := []string{""}
			for _, s := range p.Body {
				next := map[string]bool{string(rune('0' + s.N)): true}
				if s.Kind == api.Non {
					next = made[s.N]
				}
				longer := map[string]bool{}
				for _, x := range l {
					for y := range next {
						if len(x)+len(y) <= most {
							longer[x+y] = true
						}
					}
				}
				l = nil
				for w := range longer {
					l = append(l, w)
				}
			}
			for _, w := range l {
				grown = grown || !made[p.Head][w]
				made[p.Head][w] = true
			}
		}
	}
	return made
}

// What trees yield are words, and of each word that is short enough there is a tree.
func TestP39YieldsAreTheWords(t *testing.T) {
	tried, words := 0, 0
	try := func(g api.Grammar, most, longest int) {
		known := wordsOf(g, most)[0]
		seen := map[string]bool{}
		for _, x := range allTrees(g, non(0), most) {
			word, err := trees.Yield(g, numbered(x))
			w := ""
			for _, n := range word {
				w += string(rune('0' + n))
			}
			if err != api.OK || !known[w] {
				t.Fatalf("Yield(%s, %s): %v %d, which is no word", show(g), show(x), word, err)
			}
			tried++
			seen[w] = true
		}
		for w := range known {
			if len(w) > longest {
				continue
			}
			words++
			if !seen[w] {
				t.Fatalf("%s: %q is the Yield of no tree", show(g), w)
			}
		}
	}
	small(1, 1, 3, 2, func(g api.Grammar) { try(g, 10, 3) })
	small(2, 1, 2, 2, func(g api.Grammar) { try(g, 10, 3) })
	small(2, 1, 3, 2, func(g api.Grammar) { try(g, 8, 2) })
	small(2, 2, 2, 2, func(g api.Grammar) { try(g, 9, 2) })
	small(1, 2, 3, 2, func(g api.Grammar) { try(g, 11, 2) })
	if tried < 10000 || words < 1000 {
		t.Errorf("only %d trees, %d words", tried, words)
	}
}
