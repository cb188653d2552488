package facts_test

import (
	"math"
	"math/rand"
	"slices"
	"testing"

	"pushmill/api"
	"pushmill/facts"
)

// mixed has of each kind of nonterminal one: n1 is Empty alone, n2 is Empty or begins with t1, n3 begins with t2, n4 makes nothing, n5 begins with t4 and is never come to.
const mixed = "5 6\n0: n2 n3\n1:\n2:\n2: t1 n2\n3: t2\n4: t3 n4\n5: t4\n"

func TestP32KnownBeginnings(t *testing.T) {
	g := must(t, mixed)
	for _, c := range []struct {
		body         []api.Sym
		behind, want uint64
	}{
		{nil, 0, 0},
		{nil, 8, 8},
		{nil, end, end},
		{[]api.Sym{}, math.MaxUint64, math.MaxUint64},
		{[]api.Sym{term(0)}, 8, 1},
		{[]api.Sym{term(4), term(3)}, 4, 16},
		{[]api.Sym{term(4), non(1)}, 4, 16},
		{[]api.Sym{non(1)}, 8, 8},
		{[]api.Sym{non(1)}, 0, 0},
		{[]api.Sym{non(1), non(1), non(1)}, end | 1, end | 1},
		{[]api.Sym{non(2)}, 8, 10},
		{[]api.Sym{non(2)}, 2, 2},
		{[]api.Sym{non(2)}, 0, 2},
		{[]api.Sym{non(2), non(1), non(2)}, end, end | 2},
		{[]api.Sym{non(3)}, end, 4},
		{[]api.Sym{non(2), non(3)}, end, 6},
		{[]api.Sym{non(3), non(2)}, end, 4},
		{[]api.Sym{non(1), non(2), non(1), term(3), non(3)}, end, 10},
		{[]api.Sym{non(0)}, end, 6},
		{[]api.Sym{non(5), non(3)}, end, 16},
		// n4 makes nothing: it is not Empty, and begins with nothing.
		{[]api.Sym{non(4)}, end, 0},
		{[]api.Sym{non(4), term(0)}, end, 0},
		{[]api.Sym{non(2), non(4), term(0)}, end, 2},
		{[]api.Sym{non(3), non(4)}, end, 4},
		{[]api.Sym{term(0), non(4)}, end, 1},
	} {
		begins(t, g, c.body, c.behind, c.want)
	}
	begins(t, brackets(), []api.Sym{non(0), term(1)}, 0, 3)
	begins(t, grammar(0, 1), []api.Sym{non(0)}, 7, 0)
}

// behind is handed on as it is, also such bits as no terminal has.
func TestP32BehindIsAnyNumber(t *testing.T) {
	g := must(t, mixed)
	for bit := range 64 {
		behind := uint64(1) << bit
		begins(t, g, nil, behind, behind)
		begins(t, g, []api.Sym{non(1), non(1)}, ^behind, ^behind)
		begins(t, g, []api.Sym{non(2)}, behind, behind|2)
		begins(t, g, []api.Sym{non(3)}, ^behind, 4)
		begins(t, g, []api.Sym{term(0)}, behind, 1)
	}
}

func TestP32EachTerminal(t *testing.T) {
	for terms := range 31 {
		for n := range terms {
			begins(t, grammar(terms, 1, prod(0)), []api.Sym{non(0), term(n), term(0)}, end, 1<<n)
			begins(t, grammar(terms, 1, prod(0, term(n))), []api.Sym{non(0)}, end, 1<<n)
		}
	}
}

// The longest body, and where in it the first symbol stands that is not Empty.
func TestP32HowLong(t *testing.T) {
	g := must(t, mixed)
	for n := range 61 {
		begins(t, g, slices.Repeat([]api.Sym{non(1)}, n), 8, 8)
		begins(t, g, slices.Repeat([]api.Sym{term(4)}, n), 8, map[bool]uint64{false: 16, true: 8}[n == 0])
	}
	for at := range 60 {
		body := slices.Repeat([]api.Sym{non(1)}, 60)
		body[at] = non(3)
		begins(t, g, body, 8, 4)
		body[at] = non(2)
		begins(t, g, body, 8, 10)
		body[at] = term(0)
		begins(t, g, body, 8, 1)
		body[at] = non(4)
		begins(t, g, body, 8, 0)
	}
	for _, n := range []int{61, 62, 100, 1 << 16} {
		beginFails(t, g, slices.Repeat([]api.Sym{non(1)}, n))
		beginFails(t, g, slices.Repeat([]api.Sym{term(0)}, n))
		beginFails(t, g, make([]api.Sym, n))
	}
}

// Of each kind there are just the numbers that the grammar has; other kinds have none.
func TestP32Symbols(t *testing.T) {
	for terms := range 30 + 1 {
		for nons := 1; nons <= 20; nons++ {
			g := grammar(terms, nons)
			counts := map[int]int{api.Term: terms, api.Non: nons}
			for _, kind := range []int{math.MinInt, -1, 0, 1, 2, 3, 4, 1<<32 + 1, math.MaxInt} {
				for _, n := range append(edges(), terms-1, terms, nons-1, nons) {
					body := []api.Sym{{Kind: kind, N: n}}
					switch {
					case n < 0 || n >= counts[kind]:
						beginFails(t, g, body)
					case kind == api.Term:
						begins(t, g, body, end, 1<<n)
					default:
						begins(t, g, body, end, 0)
					}
				}
			}
		}
	}
}

// A symbol that is none of g is told wherever it stands, also behind what the answer hangs on.
func TestP32EachSymbolIsLookedAt(t *testing.T) {
	g := must(t, mixed)
	for length := 1; length <= 60; length++ {
		for at := range length {
			for _, s := range []api.Sym{{}, {Kind: 3}, term(5), non(6), term(-1), non(-1)} {
				body := slices.Repeat([]api.Sym{term(0)}, length)
				body[at] = s
				beginFails(t, g, body)
			}
		}
	}
}

// What is wrong with the grammar is told first.
func TestP32WhichErrorIsFirst(t *testing.T) {
	refused(t, grammar(0, 1, make([]api.Prod, 41)...), api.ErrLarge)
	refused(t, grammar(0, 1, prod(0, make([]api.Sym, 9)...)), api.ErrLarge)
	refused(t, grammar(0, 0), api.ErrArg)
	beginFails(t, grammar(0, 1), make([]api.Sym, 61))
}

func TestP32AllSmallGrammars(t *testing.T) {
	bodies := smallBodies(2, 2, 3)
	small(2, 2, 2, 2, func(g api.Grammar) {
		f := plainOf(g)
		for i, body := range bodies {
			behind := []uint64{0, 1, end, 5 << 40}[i%4]
			begins(t, g, body, behind, plainBegin(f, body, behind))
		}
	})
}

// Where each symbol makes something, they are what the words of body begin with, with a word of behind.
func TestP32WordsOfSmallGrammars(t *testing.T) {
	bodies := smallBodies(1, 2, 2)
	small(1, 2, 2, 2, func(g api.Grammar) {
		made := wordsOf(g, 4)
		for _, body := range bodies {
			l, makes := words{"": true}, true
			for _, s := range body {
				next := words{"\x00": true}
				if s.Kind == api.Non {
					next = made[s.N]
				}
				makes = makes && len(next) > 0
				l = joined(l, next, 8)
			}
			if !makes {
				continue
			}
			var want uint64
			for w := range joined(l, words{"\x05": true}, 9) {
				want |= set(int(w[0]))
			}
			begins(t, g, body, set(5), want)
		}
	})
}

func TestP32WildBodies(t *testing.T) {
	rng := rand.New(rand.NewSource(4))
	through := 0
	for range 5000 {
		g := wildOne(rng)
		f := plainOf(g)
		for range 10 {
			body := wildBody(rng, g, rng.Intn(rng.Intn(60)+2))
			behind := rng.Uint64()
			want := plainBegin(f, body, behind)
			begins(t, g, body, behind, want)
			if len(body) > 0 && want&behind == behind {
				through++
			}
		}
	}
	if through < 1000 {
		t.Errorf("only %d were Empty", through)
	}
}

// Begin of a Body is what Of has in First and Follow.
func TestP32AsOfHasIt(t *testing.T) {
	rng := rand.New(rand.NewSource(5))
	for range 2000 {
		g := wildOne(rng)
		f := plainOf(g)
		for n := range g.Nons {
			want := f.First[n]
			if f.Empty[n] {
				want |= f.Follow[n]
			}
			begins(t, g, []api.Sym{non(n)}, f.Follow[n], want)
		}
	}
}

// With the facts at hand the same is told.
func TestP32BeginBy(t *testing.T) {
	rng := rand.New(rand.NewSource(32))
	for range 3000 {
		g := wildOne(rng)
		f, _ := facts.Of(g)
		body, behind := wildBody(rng, g, rng.Intn(9)), rng.Uint64()
		if got, want := facts.BeginBy(f, body, behind), plainBegin(plainOf(g), body, behind); got != want {
			t.Fatalf("BeginBy of %s, %v, %x: %x, not %x", show(g), body, behind, got, want)
		}
	}
}
