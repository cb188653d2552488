package small_test

import (
	"math"
	"math/rand"
	"reflect"
	"slices"
	"sync"
	"testing"
	"unsafe"

	"pushmill/api"
	"pushmill/small"
)

// anyDfa may be right or wrong.
func anyDfa(rng *rand.Rand) api.Dfa {
	numbers := []int16{math.MinInt16, -2, -1, 0, 1, 2, 199, 200, math.MaxInt16}
	tags := []int{math.MinInt, -2, -1, 0, 1, 19, 20, math.MaxInt}
	d := wildDfa(rng, 1+rng.Intn(4), 1+rng.Intn(3), 2)
	for state := range d.Rows {
		if rng.Intn(5) == 0 {
			d.Rows[state][rng.Intn(256)] = numbers[rng.Intn(len(numbers))]
		}
		if rng.Intn(5) == 0 {
			d.Tags[state] = tags[rng.Intn(len(tags))]
		}
	}
	if rng.Intn(5) == 0 {
		d.Rows = d.Rows[rng.Intn(len(d.Rows)+1):]
	}
	if rng.Intn(5) == 0 {
		d.Tags = d.Tags[rng.Intn(len(d.Tags)+1):]
	}
	return d
}

func TestP1AnswersWhateverAutomataAreGiven(t *testing.T) {
	rng := rand.New(rand.NewSource(11))
	right := 0
	for range 20000 {
		a, b := anyDfa(rng), anyDfa(rng)
		small.Minimal(a)
		_, _, err := small.Apart(a, b)
		small.Pack(a)
		if err == api.OK {
			right++
		}
	}
	if right < 2000 || right > 18000 {
		t.Errorf("%d pairs of 20000 are right", right)
	}
}

func TestP1AnswersWhateverPackedIsGiven(t *testing.T) {
	rng := rand.New(rand.NewSource(12))
	numbers := []int{math.MinInt, -2, -1, -1, 0, 0, 0, 0, 0, 1, 1, 2, 19, 20, 199, 200, math.MaxInt}
	list := func(most int) []int {
		l := make([]int, rng.Intn(most))
		for i := range l {
			l[i] = numbers[2+rng.Intn(7)]
		}
		if len(l) > 0 {
			l[rng.Intn(len(l))] = numbers[rng.Intn(len(numbers))]
		}
		return l
	}
	right := 0
	for range 200000 {
		p := api.Packed{Next: make([][]int, rng.Intn(4)), Tags: list(4)}
		for i := range p.Next {
			p.Next[i] = list(4)
		}
		for range rng.Intn(3) {
			p.Of[rng.Intn(256)] = uint8(rng.Intn(4))
		}
		if rng.Intn(9) == 0 {
			p.Of[rng.Intn(256)] = uint8(rng.Intn(256))
		}
		if small.Check(p) == api.OK {
			right++
		}
		small.Unpack(p)
	}
	if right < 500 {
		t.Errorf("only %d of 200000 are right", right)
	}
}

// room is the memory of a list, from its first byte to behind its spare room.
type room struct{ from, to uintptr }

// roomOf has the memory of a list, if it has any.
func roomOf[T any](list []T) []room {
	if cap(list) == 0 {
		return nil
	}
	from := uintptr(unsafe.Pointer(unsafe.SliceData(list)))
	var one T
	return []room{{from, from + uintptr(cap(list))*unsafe.Sizeof(one)}}
}

// dfaRooms has the memory of all lists of d.
func dfaRooms(d api.Dfa) []room {
	return slices.Concat(roomOf(d.Rows), roomOf(d.Tags))
}

// packedRooms has the memory of all lists of p.
func packedRooms(p api.Packed) []room {
	l := slices.Concat(roomOf(p.Next), roomOf(p.Tags))
	for _, next := range p.Next {
		l = append(l, roomOf(next)...)
	}
	return l
}

// apart: do these share no memory?
func apart(l []room) bool {
	slices.SortFunc(l, func(a, b room) int { return int(a.from) - int(b.from) })
	for i := 1; i < len(l); i++ {
		if l[i-1].to > l[i].from {
			return false
		}
	}
	return true
}

func TestP2AnswersAreNewMemory(t *testing.T) {
	rng := rand.New(rand.NewSource(13))
	for range 500 {
		d := plainDfa(rng, 1+rng.Intn(9), 2+rng.Intn(3), rng.Intn(3), 1+rng.Intn(9))
		first, _ := small.Minimal(d)
		second, _ := small.Minimal(d)
		again, _ := small.Minimal(first)
		if !apart(slices.Concat(dfaRooms(d), dfaRooms(first), dfaRooms(second), dfaRooms(again))) {
			t.Fatalf("Minimal(%s): lists share their memory", brief(d))
		}
		p, _ := small.Pack(d)
		q, _ := small.Pack(d)
		if !apart(slices.Concat(dfaRooms(d), packedRooms(p), packedRooms(q))) {
			t.Fatalf("Pack(%s): lists share their memory", brief(d))
		}
		first, _ = small.Unpack(p)
		second, _ = small.Unpack(p)
		if !apart(slices.Concat(packedRooms(p), dfaRooms(first), dfaRooms(second))) {
			t.Fatalf("Unpack(%s): lists share their memory", show(p))
		}
	}
}

// roomy is a list with spare room behind it, in which spare stands.
func roomy[T any](list []T, spare T) []T {
	l := append(make([]T, 0, len(list)+2), list...)
	_ = append(l, spare, spare)
	return l
}

// roomyDfa is d with spare room behind each list.
func roomyDfa(d api.Dfa) api.Dfa {
	return api.Dfa{Rows: roomy(d.Rows, api.Row{7, 7}), Tags: roomy(d.Tags, 77)}
}

// wholeDfa is d with its spare room as a part of each list.
func wholeDfa(d api.Dfa) api.Dfa {
	return api.Dfa{Rows: d.Rows[:cap(d.Rows)], Tags: d.Tags[:cap(d.Tags)]}
}

// roomyPacked is p with spare room behind each list.
func roomyPacked(p api.Packed) api.Packed {
	next := make([][]int, len(p.Next))
	for i, l := range p.Next {
		next[i] = roomy(l, 77)
	}
	return api.Packed{Of: p.Of, Next: roomy(next, []int{7, 7}), Tags: roomy(p.Tags, 77)}
}

// wholePacked is p with its spare room as a part of each list.
func wholePacked(p api.Packed) api.Packed {
	next := slices.Clone(p.Next[:cap(p.Next)])
	for i, l := range next {
		next[i] = l[:cap(l)]
	}
	return api.Packed{Of: p.Of, Next: next, Tags: p.Tags[:cap(p.Tags)]}
}

func TestP2WhatIsHandedInStays(t *testing.T) {
	rng := rand.New(rand.NewSource(14))
	for range 500 {
		d, e := plainDfa(rng, 1+rng.Intn(9), 3, 2, 1+rng.Intn(5)), plainDfa(rng, 1+rng.Intn(9), 3, 2, 1+rng.Intn(5))
		p := plainPacked(rng, 1+rng.Intn(5), 1+rng.Intn(5))
		if rng.Intn(3) == 0 {
			d.Tags[0], p.Tags[0] = 20, 20
		}
		a, b, given := roomyDfa(d), roomyDfa(e), roomyPacked(p)
		small.Minimal(a)
		small.Apart(a, b)
		small.Apart(b, a)
		small.Pack(a)
		small.Minimal(b)
		small.Pack(b)
		small.Check(given)
		small.Unpack(given)
		if !reflect.DeepEqual(wholeDfa(a), wholeDfa(roomyDfa(d))) || !reflect.DeepEqual(wholeDfa(b), wholeDfa(roomyDfa(e))) {
			t.Fatalf("%s or %s is changed", brief(d), brief(e))
		}
		if !reflect.DeepEqual(wholePacked(given), wholePacked(roomyPacked(p))) {
			t.Fatalf("%s is changed", show(p))
		}
	}
}

func TestP2NothingIsKept(t *testing.T) {
	d := madeOf(t, "ab*")
	want := built([]int{-1, 0}, way{0, "a", 1}, way{1, "b", 1})
	m, _ := small.Minimal(d)
	p, _ := small.Pack(m)
	u, _ := small.Unpack(p)
	d.Rows[0]['a'], d.Tags[1] = -1, 9
	if !same(m, want) {
		t.Errorf("it is changed with the automaton: %s", brief(m))
	}
	shrinks(t, d, idle(1))
	m.Rows[1]['b'], m.Tags[1] = -1, 9
	if !same(u, want) || !samePacked(p, plainPack(want)) {
		t.Errorf("they are changed with the automaton: %s, %s", brief(u), show(p))
	}
	p.Next[1][2], p.Tags[1], p.Of['b'] = 0, 5, 0
	if !same(u, want) {
		t.Errorf("it is changed with what was packed: %s", brief(u))
	}
	small.Minimal(chain(200))
	small.Pack(idle(201))
	small.Apart(chain(3), api.Dfa{})
	small.Check(api.Packed{})
	shrinks(t, madeOf(t, "ab*"), want)
	packs(t, want, plainPack(want))
	agrees(t, madeOf(t, "ab*"), want)
	differs(t, m, want, "a")
}

func TestP2CallsAtOneTimeDoNotMeet(t *testing.T) {
	rng := rand.New(rand.NewSource(15))
	d, e := plainDfa(rng, 30, 3, 1, 3), madeOf(t, "(a|b)*a[ab][ab]", "b*")
	less, fewer := plainMinimal(d, twins(d), byPairs(d, twins(d))), plainMinimal(e, twins(e), byPairs(e, twins(e)))
	text, is := plainApart(d, e)
	p := plainPack(d)
	var wait sync.WaitGroup
	for range 8 {
		wait.Go(func() {
			for range 40 {
				shrinks(t, d, less)
				shrinks(t, e, fewer)
				told(t, d, e, text, is)
				agrees(t, e, fewer)
				packs(t, d, p)
				checks(t, api.Packed{Next: p.Next}, api.ErrArg)
			}
		})
	}
	wait.Wait()
}
