package cfg_test

import (
	"math"
	"math/rand"
	"slices"
	"testing"

	"pushmill/api"
)

func TestP28RightGrammars(t *testing.T) {
	for _, g := range []api.Grammar{
		brackets(),
		greatest(),
		grammar(0, 1),
		grammar(0, 1, prod(0)),
		grammar(0, 1, prod(0, non(0))),
		grammar(1, 1, prod(0, term(0))),
		grammar(2, 3, prod(2, non(1), term(1)), prod(1), prod(0, non(2), non(2))),
		grammar(1, 2, prod(1), prod(1)), // twice the same, and none of the nonterminal 0
		grammar(30, 20),
	} {
		checks(t, g, api.OK)
	}
}

// edges are numbers at both sides of the bounds.
func edges() []int {
	return []int{math.MinInt, -1 << 32, -2, -1, 0, 1, 2, 19, 20, 21, 29, 30, 31, 40, 255, 256, 1 << 32, 1<<32 + 1, math.MaxInt}
}

func TestP28HowManySymbols(t *testing.T) {
	for _, terms := range edges() {
		for _, nons := range edges() {
			g := grammar(terms, nons)
			if terms >= 0 && terms <= 30 && nons >= 1 && nons <= 20 {
				checks(t, g, api.OK)
			} else {
				refused(t, g, api.ErrArg)
			}
		}
	}
}

func TestP28HowManyProductions(t *testing.T) {
	for n := range 40 + 1 {
		checks(t, grammar(0, 1, make([]api.Prod, n)...), api.OK)
	}
	for _, n := range []int{41, 42, 100, 1 << 16} {
		refused(t, grammar(0, 1, make([]api.Prod, n)...), api.ErrLarge)
	}
}

func TestP28HowWide(t *testing.T) {
	for at := range 40 {
		for _, n := range []int{0, 1, 7, 8, 9, 10, 100, 1 << 16} {
			g := grammar(1, 1, make([]api.Prod, 40)...)
			g.Prods[at].Body = slices.Repeat([]api.Sym{term(0)}, n)
			if n <= 8 {
				checks(t, g, api.OK)
			} else {
				refused(t, g, api.ErrLarge)
			}
		}
	}
}

func TestP28Heads(t *testing.T) {
	for nons := 1; nons <= 20; nons++ {
		for _, head := range edges() {
			g := grammar(30, nons, prod(0), prod(head))
			if head >= 0 && head < nons {
				checks(t, g, api.OK)
			} else {
				refused(t, g, api.ErrArg)
			}
		}
	}
}

// Of each kind there are just the numbers that the grammar has; other kinds have none.
func TestP28Symbols(t *testing.T) {
	for terms := range 30 + 1 {
		for nons := 1; nons <= 20; nons++ {
			counts := map[int]int{api.Term: terms, api.Non: nons}
			for _, kind := range []int{math.MinInt, -1, 0, 1, 2, 3, 4, 1<<32 + 1, math.MaxInt} {
				for _, n := range append(edges(), terms-1, terms, nons-1, nons) {
					g := grammar(terms, nons, prod(0, api.Sym{Kind: kind, N: n}))
					if n >= 0 && n < counts[kind] {
						checks(t, g, api.OK)
					} else {
						refused(t, g, api.ErrArg)
					}
				}
			}
		}
	}
}

// A single fault is told wherever it is.
func TestP28EachPlaceIsLookedAt(t *testing.T) {
	for i := range 40 {
		g := greatest()
		g.Prods[i].Head = 20
		refused(t, g, api.ErrArg)
		for at := range 8 {
			for _, s := range []api.Sym{{}, {Kind: 3}, term(30), non(20), term(-1), non(-1)} {
				g = greatest()
				g.Prods[i].Body = slices.Clone(g.Prods[i].Body)
				g.Prods[i].Body[at] = s
				refused(t, g, api.ErrArg)
			}
		}
	}
}

func TestP28WhichErrorIsFirst(t *testing.T) {
	wide := prod(0, make([]api.Sym, 9)...) // its symbols are wrong, too
	wrong := prod(0, term(9))
	for _, c := range []struct {
		g    api.Grammar
		want api.Errno
	}{
		{grammar(31, 1, make([]api.Prod, 41)...), api.ErrArg},
		{grammar(0, 0, make([]api.Prod, 41)...), api.ErrArg},
		{grammar(-1, 1, wide), api.ErrArg},
		{grammar(0, 21, wide), api.ErrArg},
		{grammar(0, 1, slices.Repeat([]api.Prod{wrong}, 41)...), api.ErrLarge},
		{grammar(0, 1, slices.Repeat([]api.Prod{prod(7)}, 41)...), api.ErrLarge},
		{grammar(0, 1, wide), api.ErrLarge},
		{grammar(0, 1, prod(-1, make([]api.Sym, 9)...)), api.ErrLarge},
		{grammar(0, 1, wide, wrong), api.ErrLarge},
		{grammar(0, 1, wrong, wide), api.ErrArg},
		{grammar(0, 1, prod(1), wide), api.ErrArg},
		{grammar(0, 1, prod(0), wide, prod(1)), api.ErrLarge},
	} {
		refused(t, c.g, c.want)
	}
}

func TestP28AllSmallGrammars(t *testing.T) {
	counts := map[api.Errno]int{}
	try := func(g api.Grammar) {
		want := plainCheck(g)
		checks(t, g, want)
		counts[want]++
	}
	small(2, 1, try)
	small(1, 2, try)
	if counts[api.OK] < 300 || counts[api.ErrArg] < 50000 {
		t.Errorf("told: %v", counts)
	}
}

// anyGrammar may be right or wrong.
func anyGrammar(rng *rand.Rand) api.Grammar {
	g := wildOne(rng)
	pick := func(l []int) int { return l[rng.Intn(len(l))] }
	if rng.Intn(6) == 0 {
		g.Terms = pick(edges())
	}
	if rng.Intn(6) == 0 {
		g.Nons = pick(edges())
	}
	if rng.Intn(6) == 0 {
		g.Prods = slices.Repeat(append(g.Prods, prod(0)), 1+rng.Intn(3))
	}
	for range rng.Intn(3) * rng.Intn(2) {
		if len(g.Prods) == 0 {
			break
		}
		p := &g.Prods[rng.Intn(len(g.Prods))]
		switch rng.Intn(3) {
		case 0:
			p.Head = pick(edges())
		case 1:
			p.Body = append(slices.Clone(p.Body), api.Sym{Kind: pick([]int{-1, 0, 1, 2, 3}), N: pick(edges())})
		case 2:
			p.Body = slices.Repeat([]api.Sym{non(0)}, rng.Intn(12))
		}
	}
	return g
}

func TestP28AnyGrammars(t *testing.T) {
	rng := rand.New(rand.NewSource(1))
	counts := map[api.Errno]int{}
	for range 30000 {
		g := anyGrammar(rng)
		want := plainCheck(g)
		if want == api.OK {
			checks(t, g, want)
		} else {
			refused(t, g, want)
		}
		counts[want]++
	}
	for _, err := range []api.Errno{api.OK, api.ErrArg, api.ErrLarge} {
		if counts[err] < 1000 {
			t.Errorf("told: %v", counts)
		}
	}
}
