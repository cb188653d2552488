package count

import "pushmill/api"

// leaf stands as the Prod of a node that is no production.
const leaf = -1

// tree is the tree of the whole word, of which there is just one, up to as many nodes as a tree may have: of those behind
// them, which may be more than there is room for, zero things stand, that trees.Check does not come to.
func (c *chart) tree() api.Tree {
	left := api.MaxNodes
	return c.node(api.Sym{Kind: api.Non, N: 0}, 0, len(c.word), &left)
}

// node is the tree that stands for s in that piece; left is how many nodes may still be made, each ahead of its Kids.
func (c *chart) node(s api.Sym, from, to int, left *int) api.Tree {
	if *left == 0 {
		return api.Tree{}
	}
	*left--
	if s.Kind == api.Term {
		return api.Tree{Prod: leaf, Tok: from}
	}
	n := c.prod(s.N, from, to)
	body := c.g.Prods[n].Body
	cuts := c.cuts(n, from, to)
	t := api.Tree{Prod: n, Kids: make([]api.Tree, len(body))}
	for i, below := range body {
		t.Kids[i] = c.node(below, cuts[i], cuts[i+1], left)
	}
	return t
}

// prod is the production of a nonterminal that stands for that piece; there is one.
func (c *chart) prod(non, from, to int) int {
	n := 0
	for c.g.Prods[n].Head != non || c.bodies[n][len(c.g.Prods[n].Body)][from][to] == 0 {
		n++
	}
	return n
}

// cuts has where in that piece each symbol of production n begins, and where the last one ends.
func (c *chart) cuts(n, from, to int) []int {
	body := c.g.Prods[n].Body
	l := make([]int, len(body)+1)
	l[len(body)] = to
	for i := len(body) - 1; i >= 0; i-- {
		at := l[i+1]
		for c.bodies[n][i][from][at]*c.of(body[i], at, l[i+1]) == 0 {
			at--
		}
		l[i] = at
	}
	return l
}
