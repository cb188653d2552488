package facts_test

import (
	"math"
	"math/rand"
	"reflect"
	"slices"
	"sync"
	"testing"
	"unsafe"

	"pushmill/api"
	"pushmill/cfg"
	"pushmill/facts"
)

// anyGrammar may be right or wrong.
func anyGrammar(rng *rand.Rand) api.Grammar {
	g := wildOne(rng)
	pick := func(l []int) int { return l[rng.Intn(len(l))] }
	if rng.Intn(6) == 0 {
		g.Terms = pick(edges())
	}
	if rng.Intn(6) == 0 {
		g.Nons = pick(edges())
	}
	if rng.Intn(6) == 0 {
		g.Prods = slices.Repeat(append(g.Prods, prod(0)), 1+rng.Intn(3))
	}
	for range rng.Intn(3) * rng.Intn(2) {
		if len(g.Prods) == 0 {
			break
		}
		p := &g.Prods[rng.Intn(len(g.Prods))]
		switch rng.Intn(3) {
		case 0:
			p.Head = pick(edges())
		case 1:
			p.Body = append(slices.Clone(p.Body), api.Sym{Kind: pick([]int{-1, 0, 1, 2, 3}), N: pick(edges())})
		case 2:
			p.Body = slices.Repeat([]api.Sym{non(0)}, rng.Intn(12))
		}
	}
	return g
}

// anyBody may have symbols of g and others.
func anyBody(rng *rand.Rand) []api.Sym {
	l := make([]api.Sym, rng.Intn(4)*rng.Intn(24))
	for i := range l {
		l[i] = api.Sym{Kind: 1 + rng.Intn(2), N: rng.Intn(3)}
		if rng.Intn(30) == 0 {
			l[i] = api.Sym{Kind: rng.Intn(5) - 1, N: edges()[rng.Intn(len(edges()))]}
		}
	}
	return l
}

// plainly: do both calls answer as the second reading does?
func plainly(t *testing.T, g api.Grammar, body []api.Sym, behind uint64) api.Errno {
	t.Helper()
	if err := cfg.Check(g); err != api.OK {
		refused(t, g, err)
		return err
	}
	f := plainOf(g)
	has(t, g, f)
	isSym := func(s api.Sym) bool {
		return s.N >= 0 && (s.Kind == api.Term && s.N < g.Terms || s.Kind == api.Non && s.N < g.Nons)
	}
	if len(body) >= 61 || !all(body, isSym) {
		beginFails(t, g, body)
		return api.ErrArg
	}
	begins(t, g, body, behind, plainBegin(f, body, behind))
	return api.OK
}

func TestP1AnswersWhateverIsGiven(t *testing.T) {
	rng := rand.New(rand.NewSource(11))
	counts := map[api.Errno]int{}
	for range 20000 {
		counts[plainly(t, anyGrammar(rng), anyBody(rng), rng.Uint64())]++
	}
	for _, err := range []api.Errno{api.OK, api.ErrArg, api.ErrLarge} {
		if counts[err] < 1000 {
			t.Errorf("told: %v", counts)
		}
	}
	huge := grammar(1, 1, slices.Repeat([]api.Prod{prod(math.MinInt, make([]api.Sym, 1<<16)...)}, 1<<16)...)
	refused(t, huge, api.ErrLarge)
	huge.Prods = huge.Prods[:1]
	refused(t, huge, api.ErrLarge)
	refused(t, grammar(math.MaxInt, math.MaxInt), api.ErrArg)
	refused(t, grammar(math.MinInt, math.MinInt), api.ErrArg)
	beginFails(t, brackets(), make([]api.Sym, 1<<20))
}

// room is the memory of a list, from its first byte to behind its spare room.
type room struct{ from, to uintptr }

// roomOf has the memory of a list, if it has any.
func roomOf[T any](list []T) []room {
	if cap(list) == 0 {
		return nil
	}
	from := uintptr(unsafe.Pointer(unsafe.SliceData(list)))
	var one T
	return []room{{from, from + uintptr(cap(list))*unsafe.Sizeof(one)}}
}

// grammarRooms has the memory of all lists of g.
func grammarRooms(g api.Grammar) []room {
	l := roomOf(g.Prods)
	for _, p := range g.Prods {
		l = append(l, roomOf(p.Body)...)
	}
	return l
}

// factsRooms has the memory of all lists of f.
func factsRooms(f api.Facts) []room {
	return slices.Concat(roomOf(f.Empty), roomOf(f.First), roomOf(f.Follow), roomOf(f.Reach), roomOf(f.Makes))
}

// apart: do these share no memory?
func apart(l []room) bool {
	slices.SortFunc(l, func(a, b room) int { return int(a.from) - int(b.from) })
	for i := 1; i < len(l); i++ {
		if l[i-1].to > l[i].from {
			return false
		}
	}
	return true
}

func TestP2AnswersAreNewMemory(t *testing.T) {
	rng := rand.New(rand.NewSource(12))
	for range 1000 {
		g := roomyGrammar(wildOne(rng))
		f, _ := facts.Of(g)
		again, _ := facts.Of(g)
		if !apart(slices.Concat(grammarRooms(g), factsRooms(f), factsRooms(again))) {
			t.Fatalf("of %s: lists share their memory", show(g))
		}
	}
}

// roomy is a list with spare room behind it, in which spare stands.
func roomy[T any](list []T, spare T) []T {
	l := append(make([]T, 0, len(list)+2), list...)
	_ = append(l, spare, spare)
	return l
}

// roomyGrammar is g with spare room behind each list.
func roomyGrammar(g api.Grammar) api.Grammar {
	prods := make([]api.Prod, len(g.Prods))
	for i, p := range g.Prods {
		prods[i] = prod(p.Head, roomy(p.Body, api.Sym{Kind: 7, N: 77})...)
	}
	return grammar(g.Terms, g.Nons, roomy(prods, prod(77, term(77)))...)
}

// wholeGrammar is g with its spare room as a part of each list.
func wholeGrammar(g api.Grammar) api.Grammar {
	prods := slices.Clone(g.Prods[:cap(g.Prods)])
	for i, p := range prods {
		prods[i].Body = p.Body[:cap(p.Body)]
	}
	return grammar(g.Terms, g.Nons, prods...)
}

func TestP2WhatIsHandedInStays(t *testing.T) {
	rng := rand.New(rand.NewSource(13))
	for range 3000 {
		g, body := anyGrammar(rng), anyBody(rng)
		given, handed := roomyGrammar(g), roomy(body, term(77))
		facts.Of(given)
		facts.Begin(given, handed, 5)
		if !reflect.DeepEqual(wholeGrammar(given), wholeGrammar(roomyGrammar(g))) {
			t.Fatalf("%s is changed", show(g))
		}
		if !slices.Equal(handed[:cap(handed)], append(slices.Clone(body), term(77), term(77))) {
			t.Fatalf("%v is changed", body)
		}
	}
}

// bracketFacts are those of brackets.
func bracketFacts() api.Facts {
	return api.Facts{Empty: []bool{true}, First: []uint64{1}, Follow: []uint64{end | 2}, Reach: []bool{true}, Makes: []bool{true}}
}

// What is answered stays when what was handed in is changed, and a call does not hang on those ahead of it.
func TestP2NothingIsKept(t *testing.T) {
	g := brackets()
	f, _ := facts.Of(g)
	g.Prods[0].Head, g.Prods[1].Body[0] = 7, term(77)
	if !same(f, bracketFacts()) {
		t.Errorf("it is changed: %v", f)
	}
	f.Empty[0], f.First[0], f.Follow[0], f.Reach[0], f.Makes[0] = false, 77, 77, false, false
	has(t, brackets(), bracketFacts())
	refused(t, g, api.ErrArg)
	begins(t, brackets(), []api.Sym{non(0)}, end, end|1)
	beginFails(t, brackets(), []api.Sym{non(1)})
	has(t, must(t, "2 1\n0: t1\n"), api.Facts{Empty: []bool{false}, First: []uint64{2}, Follow: []uint64{end}, Reach: []bool{true}, Makes: []bool{true}})
	has(t, brackets(), bracketFacts())
	begins(t, brackets(), []api.Sym{non(0)}, 0, 1)
}

func TestP2CallsAtOneTimeDoNotMeet(t *testing.T) {
	rng := rand.New(rand.NewSource(14))
	g, great := brackets(), wild(rng, 30, 20, 40, 8, 3)
	want := plainOf(great)
	body := slices.Repeat([]api.Sym{non(0), non(19)}, 30)
	beginning := plainBegin(want, body, end)
	wrong := grammar(1, 1, prod(1))
	var wait sync.WaitGroup
	for range 8 {
		wait.Go(func() {
			for range 200 {
				has(t, g, bracketFacts())
				has(t, great, want)
				begins(t, g, []api.Sym{non(0)}, end, end|1)
				begins(t, great, body, end, beginning)
				refused(t, wrong, api.ErrArg)
				beginFails(t, g, []api.Sym{non(1)})
			}
		})
	}
	wait.Wait()
}
