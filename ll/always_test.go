package ll_test

import (
	"math"
	"math/rand"
	"reflect"
	"slices"
	"sync"
	"testing"
	"unsafe"

	"pushmill/api"
	"pushmill/cfg"
	"pushmill/ll"
)

// anyGrammar may be right or wrong.
func anyGrammar(rng *rand.Rand) api.Grammar {
	g := wildOne(rng)
	pick := func(l []int) int { return l[rng.Intn(len(l))] }
	if rng.Intn(6) == 0 {
		g.Terms = pick(edges())
	}
	if rng.Intn(6) == 0 {
		g.Nons = pick(edges())
	}
	if rng.Intn(6) == 0 {
		g.Prods = slices.Repeat(append(g.Prods, prod(0)), 1+rng.Intn(3))
	}
	for range rng.Intn(3) * rng.Intn(2) {
		if len(g.Prods) == 0 {
			break
		}
		p := &g.Prods[rng.Intn(len(g.Prods))]
		switch rng.Intn(3) {
		case 0:
			p.Head = pick(edges())
		case 1:
			p.Body = append(slices.Clone(p.Body), api.Sym{Kind: pick([]int{-1, 0, 1, 2, 3}), N: pick(edges())})
		case 2:
			p.Body = slices.Repeat([]api.Sym{non(0)}, rng.Intn(12))
		}
	}
	return g
}

// plainly: do both calls answer as the second reading does?
func plainly(t *testing.T, g api.Grammar, rows [][]int) api.Errno {
	t.Helper()
	want := plainCheck(g, rows)
	checks(t, g, rows, want)
	if err := cfg.Check(g); err != api.OK {
		refused(t, g, err)
		return err
	}
	made, clashes := plainMake(t, g)
	makes(t, g, made, clashes)
	return want
}

func TestP1AnswersWhateverIsGiven(t *testing.T) {
	rng := rand.New(rand.NewSource(11))
	counts := map[api.Errno]int{}
	for range 10000 {
		g := anyGrammar(rng)
		counts[plainly(t, g, anyRows(rng, g))]++
	}
	for _, err := range []api.Errno{api.OK, api.ErrArg, api.ErrLarge} {
		if counts[err] < 500 {
			t.Errorf("told: %v", counts)
		}
	}
	huge := grammar(1, 1, slices.Repeat([]api.Prod{prod(math.MinInt, make([]api.Sym, 1<<16)...)}, 1<<16)...)
	refused(t, huge, api.ErrLarge)
	huge.Prods = huge.Prods[:1]
	refused(t, huge, api.ErrLarge)
	refused(t, grammar(math.MaxInt, math.MaxInt), api.ErrArg)
	refused(t, grammar(math.MinInt, math.MinInt), api.ErrArg)
	checks(t, brackets(), make([][]int, 1<<20), api.ErrArg)
	checks(t, brackets(), [][]int{make([]int, 1<<20)}, api.ErrArg)
}

// room is the memory of a list, from its first byte to behind its spare room.
type room struct{ from, to uintptr }

// roomOf has the memory of a list, if it has any.
func roomOf[T any](list []T) []room {
	if cap(list) == 0 {
		return nil
	}
	from := uintptr(unsafe.Pointer(unsafe.SliceData(list)))
	var one T
	return []room{{from, from + uintptr(cap(list))*unsafe.Sizeof(one)}}
}

// grammarRooms has the memory of all lists of g.
func grammarRooms(g api.Grammar) []room {
	l := roomOf(g.Prods)
	for _, p := range g.Prods {
		l = append(l, roomOf(p.Body)...)
	}
	return l
}

// tableRooms has the memory of all lists that Make answers.
func tableRooms(rows [][]int, clashes []api.Clash) []room {
	l := slices.Concat(roomOf(rows), roomOf(clashes))
	for _, row := range rows {
		l = append(l, roomOf(row)...)
	}
	return l
}

// apart: do these share no memory?
func apart(l []room) bool {
	slices.SortFunc(l, func(a, b room) int { return int(a.from) - int(b.from) })
	for i := 1; i < len(l); i++ {
		if l[i-1].to > l[i].from {
			return false
		}
	}
	return true
}

func TestP2AnswersAreNewMemory(t *testing.T) {
	rng := rand.New(rand.NewSource(12))
	for range 1000 {
		g := roomyGrammar(wildOne(rng))
		rows, clashes, _ := ll.Make(g)
		again, more, _ := ll.Make(g)
		if !apart(slices.Concat(grammarRooms(g), tableRooms(rows, clashes), tableRooms(again, more))) {
			t.Fatalf("of %s: lists share their memory", show(g))
		}
	}
}

// roomy is a list with spare room behind it, in which spare stands.
func roomy[T any](list []T, spare T) []T {
	l := append(make([]T, 0, len(list)+2), list...)
	_ = append(l, spare, spare)
	return l
}

// roomyGrammar is g with spare room behind each list.
func roomyGrammar(g api.Grammar) api.Grammar {
	prods := make([]api.Prod, len(g.Prods))
	for i, p := range g.Prods {
		prods[i] = prod(p.Head, roomy(p.Body, api.Sym{Kind: 7, N: 77})...)
	}
	return grammar(g.Terms, g.Nons, roomy(prods, prod(77, term(77)))...)
}

// wholeGrammar is g with its spare room as a part of each list.
func wholeGrammar(g api.Grammar) api.Grammar {
	prods := slices.Clone(g.Prods[:cap(g.Prods)])
	for i, p := range prods {
		prods[i].Body = p.Body[:cap(p.Body)]
	}
	return grammar(g.Terms, g.Nons, prods...)
}

// roomyRows are rows with spare room behind each list.
func roomyRows(rows [][]int) [][]int {
	l := roomy(rows, []int{77})
	for n, row := range l {
		l[n] = roomy(row, 77)
	}
	return l
}

// wholeRows are rows with their spare room as a part of each list.
func wholeRows(rows [][]int) [][]int {
	l := slices.Clone(rows[:cap(rows)])
	for n, row := range l {
		l[n] = row[:cap(row)]
	}
	return l
}

func TestP2WhatIsHandedInStays(t *testing.T) {
	rng := rand.New(rand.NewSource(13))
	for range 3000 {
		g := anyGrammar(rng)
		rows := anyRows(rng, g)
		given, handed := roomyGrammar(g), roomyRows(rows)
		ll.Make(given)
		ll.Check(given, handed)
		if !reflect.DeepEqual(wholeGrammar(given), wholeGrammar(roomyGrammar(g))) {
			t.Fatalf("%s is changed", show(g))
		}
		if !sameRows(wholeRows(handed), wholeRows(roomyRows(rows))) {
			t.Fatalf("%v is changed", rows)
		}
	}
}

// Spare room behind a list is no part of it.
func TestP2SpareRoomDoesNotCount(t *testing.T) {
	g := brackets()
	makes(t, roomyGrammar(g), [][]int{{1, 0, 0}}, nil)
	row := []int{1, 0, 0, 0}
	rows := [][]int{row[:3], row[:3]}
	checks(t, g, rows[:1], api.OK)
	checks(t, g, rows[:0], api.ErrArg)
	checks(t, g, rows, api.ErrArg)
	checks(t, g, [][]int{row[:2]}, api.ErrArg)
	checks(t, g, [][]int{row}, api.ErrArg)
}

// What is answered stays when what was handed in is changed, and a call does not hang on those ahead of it.
func TestP2NothingIsKept(t *testing.T) {
	want := []api.Clash{{Non: 0, Col: 0, A: 0, B: 1}}
	g, other := brackets(), must(t, "1 1\n0: n0 t0\n0: t0\n")
	rows, _, _ := ll.Make(g)
	_, clashes, _ := ll.Make(other)
	g.Prods[0].Head, g.Prods[1].Body[0], other.Prods[1].Head = 7, term(77), 7
	if !sameRows(rows, [][]int{{1, 0, 0}}) || !slices.Equal(clashes, want) {
		t.Errorf("it is changed: %v %v", rows, clashes)
	}
	rows[0][0], clashes[0].Non = 77, 77
	makes(t, brackets(), [][]int{{1, 0, 0}}, nil)
	refused(t, g, api.ErrArg)
	checks(t, brackets(), rows, api.ErrArg)
	makes(t, must(t, "1 1\n0: n0 t0\n0: t0\n"), [][]int{{0, -1}}, want)
	rows[0][0] = 1
	checks(t, brackets(), rows, api.OK)
	makes(t, brackets(), [][]int{{1, 0, 0}}, nil)
}

func TestP2CallsAtOneTimeDoNotMeet(t *testing.T) {
	rng := rand.New(rand.NewSource(14))
	g, many := brackets(), wild(rng, 30, 20, 40, 8, 3)
	rows, clashes := plainMake(t, many)
	wrong := grammar(1, 1, prod(1))
	var wait sync.WaitGroup
	for range 8 {
		wait.Go(func() {
			for range 50 {
				makes(t, g, [][]int{{1, 0, 0}}, nil)
				makes(t, many, rows, clashes)
				checks(t, many, rows, api.OK)
				checks(t, g, rows, api.ErrArg)
				refused(t, wrong, api.ErrArg)
			}
		})
	}
	wait.Wait()
}
