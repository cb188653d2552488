package count_test

import (
	"math"
	"math/rand"
	"reflect"
	"slices"
	"sync"
	"testing"
	"unsafe"

	"pushmill/api"
	"pushmill/count"
)

// anyGrammar may be right or wrong.
func anyGrammar(rng *rand.Rand) api.Grammar {
	g := wildOne(rng)
	pick := func(l []int) int { return l[rng.Intn(len(l))] }
	if rng.Intn(8) == 0 {
		g.Terms = pick(edges())
	}
	if rng.Intn(8) == 0 {
		g.Nons = pick(edges())
	}
	if rng.Intn(6) == 0 {
		g.Prods = slices.Repeat(append(g.Prods, prod(0)), 1+rng.Intn(3))
	}
	for range rng.Intn(3) * rng.Intn(2) {
		if len(g.Prods) == 0 {
			break
		}
		p := &g.Prods[rng.Intn(len(g.Prods))]
		switch rng.Intn(3) {
		case 0:
			p.Head = pick(edges())
		case 1:
			p.Body = append(slices.Clone(p.Body), api.Sym{Kind: pick([]int{-1, 0, 1, 2, 3}), N: pick(edges())})
		case 2:
			p.Body = slices.Repeat([]api.Sym{non(0)}, rng.Intn(12))
		}
	}
	return g
}

// anyWord may be right or wrong.
func anyWord(rng *rand.Rand, g api.Grammar) []int {
	if wrong(g, nil) == api.OK && rng.Intn(2) == 0 {
		return someWord(rng, g, 20)
	}
	l := make([]int, []int{0, 1, 2, 5, 19, 20, 21, 22, 300}[rng.Intn(9)])
	for i := range l {
		if l[i] = rng.Intn(3); rng.Intn(20) == 0 {
			l[i] = edges()[rng.Intn(len(edges()))]
		}
	}
	return l
}

func TestP1AnswersWhateverIsGiven(t *testing.T) {
	rng := rand.New(rand.NewSource(11))
	told := map[api.Errno]int{}
	for range 6000 {
		g := anyGrammar(rng)
		l := anyWord(rng, g)
		err := wrong(g, l)
		told[err]++
		if err != api.OK {
			refused(t, g, l, err)
			continue
		}
		n, _ := count.Trees(g, l)
		counted(t, g, l, n)
		if is, err := count.Begins(g, l); err != api.OK || n > 0 && !is {
			t.Fatalf("Begins(%s, %v): %v %d, but it has %d trees", show(g), l, is, err, n)
		}
	}
	for _, err := range []api.Errno{api.OK, api.ErrArg, api.ErrLarge} {
		if told[err] < 500 {
			t.Errorf("told: %v", told)
		}
	}
}

func TestP1HugeThings(t *testing.T) {
	huge := grammar(1, 1, slices.Repeat([]api.Prod{prod(math.MinInt, make([]api.Sym, 1<<16)...)}, 1<<16)...)
	refused(t, huge, nil, api.ErrLarge)
	huge.Prods = huge.Prods[:1]
	refused(t, huge, nil, api.ErrLarge)
	refused(t, grammar(math.MaxInt, math.MaxInt), nil, api.ErrArg)
	refused(t, grammar(math.MinInt, math.MinInt), nil, api.ErrArg)
	refused(t, brackets(), make([]int, 1<<24), api.ErrLarge)
	refused(t, brackets(), slices.Repeat([]int{math.MinInt}, 1<<20), api.ErrLarge)
	refused(t, brackets(), slices.Repeat([]int{math.MinInt}, 20), api.ErrArg)
}

// Grammars of the greatest size, in which all hangs on all, do not take long, either.
func TestP1GreatestGrammarsEnd(t *testing.T) {
	chain := grammar(1, 20)
	for n := range 19 {
		chain.Prods = append(chain.Prods, prod(n, append([]api.Sym{non(n + 1)}, slices.Repeat([]api.Sym{non(0)}, 7)...)...), prod(n, append(slices.Repeat([]api.Sym{non(19)}, 7), non(n+1))...))
	}
	bare := grammar(1, 20, append(slices.Clone(chain.Prods), prod(19, term(0)))...)
	full := grammar(1, 20, append(slices.Clone(bare.Prods), prod(19))...)
	same := grammar(1, 1, slices.Repeat([]api.Prod{prod(0, slices.Repeat([]api.Sym{non(0)}, 8)...)}, 40)...)
	some := grammar(1, 1, append(slices.Clone(same.Prods[:38]), prod(0), prod(0, term(0)))...)
	for n := range 21 {
		counted(t, full, make([]int, n), 2)
		counted(t, some, make([]int, n), 2)
		counted(t, same, make([]int, n), 0)
		counted(t, chain, make([]int, n), 0)
		begins(t, full, make([]int, n), true)
		begins(t, some, make([]int, n), true)
		begins(t, same, make([]int, n), false)
		begins(t, chain, make([]int, n), false)
		counted(t, bare, make([]int, n), 0) // its words have 134 terminals, or more
		begins(t, bare, make([]int, n), true)
	}
}

// room is the memory of a list, from its first byte to behind its spare room.
type room struct{ from, to uintptr }

// roomOf has the memory of a list, if it has any.
func roomOf[T any](list []T) []room {
	if cap(list) == 0 {
		return nil
	}
	from := uintptr(unsafe.Pointer(unsafe.SliceData(list)))
	var one T
	return []room{{from, from + uintptr(cap(list))*unsafe.Sizeof(one)}}
}

// grammarRooms has the memory of all lists of g.
func grammarRooms(g api.Grammar) []room {
	l := roomOf(g.Prods)
	for _, p := range g.Prods {
		l = append(l, roomOf(p.Body)...)
	}
	return l
}

// treeRooms has the memory of all lists of x, those that its spare room has included.
func treeRooms(x api.Tree) []room {
	l := roomOf(x.Kids)
	for _, kid := range x.Kids[:cap(x.Kids)] {
		l = append(l, treeRooms(kid)...)
	}
	return l
}

// apart: do these share no memory?
func apart(l []room) bool {
	slices.SortFunc(l, func(a, b room) int { return int(a.from) - int(b.from) })
	for i := 1; i < len(l); i++ {
		if l[i-1].to > l[i].from {
			return false
		}
	}
	return true
}

// roomy is a list with spare room behind it, in which spare stands.
func roomy[T any](list []T, spare T) []T {
	l := append(make([]T, 0, len(list)+2), list...)
	_ = append(l, spare, spare)
	return l
}

// roomyGrammar is g with spare room behind each list.
func roomyGrammar(g api.Grammar) api.Grammar {
	prods := make([]api.Prod, len(g.Prods))
	for i, p := range g.Prods {
		prods[i] = prod(p.Head, roomy(p.Body, api.Sym{Kind: 7, N: 77})...)
	}
	return grammar(g.Terms, g.Nons, roomy(prods, prod(77, term(77)))...)
}

// wholeGrammar is g with its spare room as a part of each list.
func wholeGrammar(g api.Grammar) api.Grammar {
	prods := slices.Clone(g.Prods[:cap(g.Prods)])
	for i, p := range prods {
		prods[i].Body = p.Body[:cap(p.Body)]
	}
	return grammar(g.Terms, g.Nons, prods...)
}

func TestP2AnswersAreNewMemory(t *testing.T) {
	rng := rand.New(rand.NewSource(13))
	tried := 0
	try := func(g api.Grammar, l []int) {
		g, l = roomyGrammar(g), roomy(l, 0)
		a, err := count.Only(g, l)
		if err != api.OK {
			return
		}
		tried++
		b, _ := count.Only(g, l)
		if !apart(slices.Concat(grammarRooms(g), roomOf(l), treeRooms(a), treeRooms(b))) {
			t.Fatalf("of %s, %v: lists share their memory", show(g), l)
		}
		if !same(a, b) {
			t.Fatalf("of %s, %v: two answers", show(g), l)
		}
	}
	for range 6000 {
		g := wild(rng, 1+rng.Intn(8), 1+rng.Intn(10), 2+rng.Intn(30), 1+rng.Intn(8), 3+rng.Intn(7))
		try(g, someWord(rng, g, 20))
	}
	for steps := range 4 {
		try(spread(1, steps), nil) // its Kids are alike
	}
	if tried < 200 {
		t.Errorf("only %d trees were tried", tried)
	}
}

func TestP2WhatIsHandedInStays(t *testing.T) {
	rng := rand.New(rand.NewSource(14))
	for range 2000 {
		g := anyGrammar(rng)
		l := anyWord(rng, g)
		given, handed := roomyGrammar(g), roomy(l, 77)
		count.Trees(given, handed)
		count.Only(given, handed)
		count.Begins(given, handed)
		if !reflect.DeepEqual(wholeGrammar(given), wholeGrammar(roomyGrammar(g))) {
			t.Fatalf("%s is changed", show(g))
		}
		if !slices.Equal(handed[:cap(handed)], roomy(l, 77)[:len(l)+2]) {
			t.Fatalf("%v is changed", l)
		}
	}
}

// Spare room behind a list is no part of it.
func TestP2SpareRoomDoesNotCount(t *testing.T) {
	g := roomyGrammar(brackets())
	counted(t, g, roomy(word("01"), 1), 1)
	counted(t, g, roomy(word("0"), 1), 0)
	begins(t, g, roomy(word("01"), 77), true)
	begins(t, g, roomy(word("001"), 0), true)
	counted(t, g, word("0011")[:1:4], 0)
	counted(t, g, make([]int, 0, 300), 1)
	counted(t, g, slices.Concat(make([]int, 10), slices.Repeat([]int{1}, 10), []int{1})[:20], 1)
	twice := grammar(1, 1, prod(0, term(0)), prod(0, term(0)))
	twice.Prods = twice.Prods[:1]
	counted(t, twice, word("0"), 1)
}

// What is answered stays when what was handed in is changed, and a call does not hang on those ahead of it.
func TestP2NothingIsKept(t *testing.T) {
	pair := node(1, token(0), node(0), token(1))
	g, l := brackets(), word("01")
	x, _ := count.Only(g, l)
	g.Prods[1].Body[0], g.Prods[0].Head, l[0] = term(1), 1, 1
	if !same(x, pair) {
		t.Errorf("it is changed: %v", x)
	}
	refused(t, g, l, api.ErrArg)
	x.Kids[0].Tok, x.Kids[1].Prod = 7, 7
	only(t, brackets(), word("01"), pair)
	counted(t, pairs(), make([]int, 20), 2)
	counted(t, pairs(), word("00"), 1)
	counted(t, pairs(), nil, 0)
	counted(t, brackets(), nil, 1)
	begins(t, brackets(), word("10"), false)
	begins(t, brackets(), word("0"), true)
	counted(t, brackets(), word("0"), 0)
	noOnly(t, spread(1, 19), nil, api.ErrLarge)
	only(t, brackets(), nil, node(0))
}

func TestP2CallsAtOneTimeDoNotMeet(t *testing.T) {
	g, h := brackets(), pairs()
	a, b, c := word("01"), make([]int, 20), make([]int, 2)
	pair := node(1, token(0), node(0), token(1))
	two := node(0, node(1, token(0)), node(1, token(1)))
	var wait sync.WaitGroup
	for range 8 {
		wait.Go(func() {
			for range 50 {
				if n, err := count.Trees(h, b); n != 2 || err != api.OK {
					t.Errorf("Trees: %d %d", n, err)
				}
				if n, err := count.Trees(g, b); n != 0 || err != api.OK {
					t.Errorf("Trees: %d %d", n, err)
				}
				if x, err := count.Only(g, a); !same(x, pair) || err != api.OK {
					t.Errorf("Only: %v %d", x, err)
				}
				if x, err := count.Only(h, c); !same(x, two) || err != api.OK {
					t.Errorf("Only: %v %d", x, err)
				}
				if is, err := count.Begins(g, b); !is || err != api.OK {
					t.Errorf("Begins: %v %d", is, err)
				}
			}
		})
	}
	wait.Wait()
}
