package count

import "pushmill/api"

// many stands for each number that is greater than one, and for those without end.
const many = 2

// chart has of each piece of a word how many trees stand for it.
type chart struct {
	g    api.Grammar
	word []int
	// open: may any terminals come behind the word? Then a piece that ends where the word does goes on with some of these, and
	// the empty piece there is any word at all.
	open   bool
	nons   []square   // of each nonterminal
	bodies [][]square // of each production, of its Body's first symbols: of none, of one, and so on, of all
}

// square has a number for each piece: by where it begins and where it ends.
type square [api.MaxWord + 1][api.MaxWord + 1]uint8

// chartOf counts what there is of word; g and word are right.
func chartOf(g api.Grammar, word []int, open bool) *chart {
	c := &chart{g: g, word: word, open: open, nons: make([]square, g.Nons), bodies: make([][]square, len(g.Prods))}
	for n, p := range g.Prods {
		c.bodies[n] = make([]square, len(p.Body)+1)
	}
	// What a piece is made of comes ahead of it: pieces that begin further on, and such from its own beginning that end sooner.
	for from := len(word); from >= 0; from-- {
		for to := from; to <= len(word); to++ {
			c.settle(from, to)
		}
	}
	return c
}

// settle counts the trees of one piece. As a Kid may stand for all of it, it is counted again and again, each time with trees
// that are one higher, till nothing is new: what comes next hangs on the counts alone, and so would stay the same from then on.
func (c *chart) settle(from, to int) {
	for more := true; more; {
		more = false
		for non, sum := range c.sums(from, to) {
			if c.nons[non][from][to] != sum {
				c.nons[non][from][to] = sum
				more = true
			}
		}
	}
}

// sums has of each nonterminal how many trees there are by what is known of their Kids.
func (c *chart) sums(from, to int) []uint8 {
	l := make([]uint8, c.g.Nons)
	for n, p := range c.g.Prods {
		c.countBody(n, from, to)
		l[p.Head] = plus(l[p.Head], c.bodies[n][len(p.Body)][from][to])
	}
	return l
}

// countBody counts lists of Kids: how many there are for production n's first symbols, more and more of them.
func (c *chart) countBody(n, from, to int) {
	had := c.bodies[n]
	if from == to {
		had[0][from][to] = 1
	}
	for i, s := range c.g.Prods[n].Body {
		sum := uint8(0)
		for cut := from; cut <= to; cut++ {
			sum = plus(sum, had[i][from][cut]*c.of(s, cut, to))
		}
		had[i+1][from][to] = sum
	}
}

// of is how many trees, or leaves, stand for s in that piece.
func (c *chart) of(s api.Sym, from, to int) uint8 {
	switch {
	case s.Kind == api.Non:
		return c.nons[s.N][from][to]
	case from+1 == to && c.word[from] == s.N, c.open && from == len(c.word):
		return 1
	}
	return 0
}

// plus adds what is at most many, and at most many times many.
func plus(a, b uint8) uint8 { return min(many, a+b) }

// whole is how many trees there are of the whole word.
func (c *chart) whole() int { return int(c.nons[0][0][len(c.word)]) }
