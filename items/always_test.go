package items_test

import (
	"math"
	"math/rand"
	"reflect"
	"slices"
	"sync"
	"testing"
	"unsafe"

	"pushmill/api"
	"pushmill/cfg"
	"pushmill/items"
)

// anyGrammar may be right or wrong.
func anyGrammar(rng *rand.Rand) api.Grammar {
	g := wildOne(rng)
	pick := func(l []int) int { return l[rng.Intn(len(l))] }
	if rng.Intn(8) == 0 {
		g.Terms = pick(edges())
	}
	if rng.Intn(8) == 0 {
		g.Nons = pick(edges())
	}
	if rng.Intn(6) == 0 {
		g.Prods = slices.Repeat(append(g.Prods, prod(0)), 1+rng.Intn(3))
	}
	for range rng.Intn(3) * rng.Intn(2) {
		if len(g.Prods) == 0 {
			break
		}
		p := &g.Prods[rng.Intn(len(g.Prods))]
		switch rng.Intn(3) {
		case 0:
			p.Head = pick(edges())
		case 1:
			p.Body = append(slices.Clone(p.Body), api.Sym{Kind: pick([]int{-1, 0, 1, 2, 3}), N: pick(edges())})
		case 2:
			p.Body = slices.Repeat([]api.Sym{non(0)}, rng.Intn(12))
		}
	}
	return g
}

// anyItems are items of g, if it is right, with up to some faults, and seldom too many.
func anyItems(rng *rand.Rand, g api.Grammar) []api.Item {
	var l []api.Item
	if cfg.Check(g) == api.OK {
		l = few(rng, g, rng.Intn(1+rng.Intn(20)))
	}
	pick := func() int { return edges()[rng.Intn(len(edges()))] }
	for range rng.Intn(3) * rng.Intn(2) {
		l = slices.Insert(l, rng.Intn(len(l)+1), item(pick(), pick(), pick()))
	}
	if len(l) > 0 && rng.Intn(20) == 0 {
		l = slices.Repeat(l, 4010/len(l)+1)[:3998+rng.Intn(6)]
	}
	return l
}

// anySym may be one of g or not.
func anySym(rng *rand.Rand, g api.Grammar) api.Sym {
	if rng.Intn(4) == 0 {
		return api.Sym{Kind: rng.Intn(5) - 1, N: edges()[rng.Intn(len(edges()))]}
	}
	if rng.Intn(2) == 0 && g.Terms > 0 {
		return term(rng.Intn(g.Terms))
	}
	return non(rng.Intn(max(g.Nons, 1)))
}

func TestP1AnswersWhateverIsGiven(t *testing.T) {
	rng := rand.New(rand.NewSource(11))
	counts := map[api.Errno]int{}
	for range 5000 {
		g := anyGrammar(rng)
		counts[plainly(t, g, anyItems(rng, g), anySym(rng, g))]++
		if err := cfg.Check(g); err != api.OK {
			allFails(t, g, err)
		}
	}
	for _, err := range []api.Errno{api.OK, api.ErrArg, api.ErrLarge} {
		if counts[err] < 300 {
			t.Errorf("told: %v", counts)
		}
	}
	huge := grammar(1, 1, slices.Repeat([]api.Prod{prod(math.MinInt, make([]api.Sym, 1<<16)...)}, 1<<16)...)
	refused(t, huge, api.ErrLarge)
	huge.Prods = huge.Prods[:1]
	refused(t, huge, api.ErrLarge)
	refused(t, grammar(math.MaxInt, math.MaxInt), api.ErrArg)
	refused(t, grammar(math.MinInt, math.MinInt), api.ErrArg)
}

// Whatever the grammar, All answers: an automaton that is right, or that there would be too many states.
func TestP1AllAnswersWhateverIsGiven(t *testing.T) {
	rng := rand.New(rand.NewSource(12))
	counts := map[api.Errno]int{}
	for range 1000 {
		g := anyGrammar(rng)
		a, err := items.All(g)
		counts[err]++
		if err != api.OK {
			allFails(t, g, err)
		} else if len(a.States) < 2 || len(a.States) > 200 || len(a.Next) != len(a.States) {
			t.Fatalf("All(%s): %d states, %d rows", show(g), len(a.States), len(a.Next))
		}
		if want := cfg.Check(g); err != want && err != api.ErrStates {
			t.Fatalf("All(%s): %d, not %d", show(g), err, want)
		}
	}
	for _, err := range []api.Errno{api.OK, api.ErrArg, api.ErrLarge, api.ErrStates} {
		if counts[err] < 20 {
			t.Errorf("told: %v", counts)
		}
	}
}

// room is the memory of a list, from its first byte to behind its spare room.
type room struct{ from, to uintptr }

// roomOf has the memory of a list, if it has any.
func roomOf[T any](list []T) []room {
	if cap(list) == 0 {
		return nil
	}
	from := uintptr(unsafe.Pointer(unsafe.SliceData(list)))
	var one T
	return []room{{from, from + uintptr(cap(list))*unsafe.Sizeof(one)}}
}

// grammarRooms has the memory of all lists of g.
func grammarRooms(g api.Grammar) []room {
	l := roomOf(g.Prods)
	for _, p := range g.Prods {
		l = append(l, roomOf(p.Body)...)
	}
	return l
}

// autoRooms has the memory of all lists of a, those that its spare room has included.
func autoRooms(a api.Auto) []room {
	l := slices.Concat(roomOf(a.States), roomOf(a.Next))
	for _, state := range a.States[:cap(a.States)] {
		l = append(l, roomOf(state)...)
	}
	for _, row := range a.Next[:cap(a.Next)] {
		l = append(l, roomOf(row)...)
	}
	return l
}

// apart: do these share no memory?
func apart(l []room) bool {
	slices.SortFunc(l, func(a, b room) int { return int(a.from) - int(b.from) })
	for i := 1; i < len(l); i++ {
		if l[i-1].to > l[i].from {
			return false
		}
	}
	return true
}

func TestP2AnswersAreNewMemory(t *testing.T) {
	rng := rand.New(rand.NewSource(13))
	for range 300 {
		g := roomyGrammar(wildOne(rng))
		l := roomy(few(rng, g, 1+rng.Intn(10)), item(77, 77, 77))
		x := anySym(rng, g)
		a, _ := items.All(g)
		b, _ := items.All(g)
		closed, _ := items.Closed(g, l)
		again, _ := items.Closed(g, closed)
		to, _ := items.Step(g, l, x)
		same, _ := items.Step(g, l, x)
		rooms := slices.Concat(grammarRooms(g), autoRooms(a), autoRooms(b))
		for _, list := range [][]api.Item{l, closed, again, to, same} {
			rooms = append(rooms, roomOf(list)...)
		}
		if !apart(rooms) {
			t.Fatalf("of %s, %v: lists share their memory", show(g), l)
		}
	}
}

// roomy is a list with spare room behind it, in which spare stands.
func roomy[T any](list []T, spare T) []T {
	l := append(make([]T, 0, len(list)+2), list...)
	_ = append(l, spare, spare)
	return l
}

// roomyGrammar is g with spare room behind each list.
func roomyGrammar(g api.Grammar) api.Grammar {
	prods := make([]api.Prod, len(g.Prods))
	for i, p := range g.Prods {
		prods[i] = prod(p.Head, roomy(p.Body, api.Sym{Kind: 7, N: 77})...)
	}
	return grammar(g.Terms, g.Nons, roomy(prods, prod(77, term(77)))...)
}

// wholeGrammar is g with its spare room as a part of each list.
func wholeGrammar(g api.Grammar) api.Grammar {
	prods := slices.Clone(g.Prods[:cap(g.Prods)])
	for i, p := range prods {
		prods[i].Body = p.Body[:cap(p.Body)]
	}
	return grammar(g.Terms, g.Nons, prods...)
}

func TestP2WhatIsHandedInStays(t *testing.T) {
	rng := rand.New(rand.NewSource(14))
	for range 1000 {
		g := anyGrammar(rng)
		l := anyItems(rng, g)
		given, handed := roomyGrammar(g), roomy(l, item(77, 77, 77))
		items.Closed(given, handed)
		items.Step(given, handed, anySym(rng, g))
		if rng.Intn(4) == 0 {
			items.All(given)
		}
		if !reflect.DeepEqual(wholeGrammar(given), wholeGrammar(roomyGrammar(g))) {
			t.Fatalf("%s is changed", show(g))
		}
		if !slices.Equal(handed[:cap(handed)], append(slices.Clone(l), item(77, 77, 77), item(77, 77, 77))) {
			t.Fatalf("%s is changed", show(l))
		}
	}
}

// Spare room behind a list is no part of it.
func TestP2SpareRoomDoesNotCount(t *testing.T) {
	g := roomyGrammar(left())
	l := list(2, 0, 1, 0, 2, 0, 1, 9, 9)
	closes(t, g, l[:1], list(0, 0, 0, 0, 0, 1, 1, 0, 0, 1, 0, 1, 2, 0, 1))
	steps(t, g, l[:1], non(0), list(2, 1, 1))
	closes(t, g, l[:0], nil)
	closedFails(t, g, l, api.ErrArg)
	many := slices.Repeat(list(1, 1, 1), 4001)
	closes(t, g, many[:4000], list(1, 1, 1))
	a, err := items.All(g)
	if want, _ := readingOf(left()).automaton(200); !sameAuto(a, want) || err != api.OK {
		t.Errorf("All: %v %d", a, err)
	}
}

// What is answered stays when what was handed in is changed, and a call does not hang on those ahead of it.
func TestP2NothingIsKept(t *testing.T) {
	want, _ := readingOf(left()).automaton(200)
	g, l := left(), list(2, 0, 1)
	a, _ := items.All(g)
	closed, _ := items.Closed(g, l)
	to, _ := items.Step(g, l, non(0))
	g.Prods[0].Head, g.Prods[1].Body[0], l[0] = 7, term(77), item(9, 9, 9)
	if !sameAuto(a, want) || !slices.Equal(closed, want.States[0]) || !slices.Equal(to, list(2, 1, 1)) {
		t.Errorf("it is changed: %v %v %v", a, closed, to)
	}
	refused(t, g, api.ErrArg)
	closedFails(t, left(), l, api.ErrArg)
	for n := range a.States {
		clear(a.States[n])
		clear(a.Next[n])
	}
	clear(closed)
	clear(to)
	leads(t, left(), want)
	closes(t, left(), list(2, 0, 1), want.States[0])
	closes(t, brackets(), list(2, 0, 2), list(0, 0, 2, 1, 0, 2, 2, 0, 2))
	steps(t, left(), list(2, 0, 1), non(0), list(2, 1, 1))
	allFails(t, ago(9), api.ErrStates)
	leads(t, left(), want)
}

// The answers don't hang on the order in which a map is gone through.
func TestP2TheSameAgain(t *testing.T) {
	rng := rand.New(rand.NewSource(15))
	for range 50 {
		g := wildOne(rng)
		l := few(rng, g, 10)
		a, e := items.All(g)
		closed, _ := items.Closed(g, l)
		for range 5 {
			b, err := items.All(g)
			if !sameAuto(a, b) || err != e {
				t.Fatalf("All(%s) is told in two ways", show(g))
			}
			closes(t, g, l, closed)
		}
	}
}

func TestP2CallsAtOneTimeDoNotMeet(t *testing.T) {
	want, _ := readingOf(left()).automaton(200)
	great, _ := items.Closed(full(), list(40, 0, 30))
	var wait sync.WaitGroup
	for range 8 {
		wait.Go(func() {
			for range 50 {
				a, err := items.All(left())
				if !sameAuto(a, want) || err != api.OK {
					t.Errorf("All: %v %d", a, err)
				}
				l, err := items.Closed(full(), list(40, 0, 30))
				if !slices.Equal(l, great) || err != api.OK {
					t.Errorf("Closed: %d items, %d", len(l), err)
				}
				l, err = items.Step(left(), want.States[0], non(0))
				if !slices.Equal(l, want.States[2]) || err != api.OK {
					t.Errorf("Step: %v %d", l, err)
				}
			}
		})
	}
	wait.Wait()
}
