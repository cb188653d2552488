package places_test

import (
	"math/rand"
	"reflect"
	"slices"
	"strings"
	"sync"
	"testing"
	"unsafe"

	"pushmill/api"
	"pushmill/places"
)

func TestP1AnswersWhateverIsGiven(t *testing.T) {
	rng := rand.New(rand.NewSource(7))
	texts := []string{"", "a", "\xff\x00", strings.Repeat("ab", 100), strings.Repeat("a", 201), strings.Repeat("a", 1<<16)}
	number := func() int {
		return []int{-1 << 63, -1, 0, 0, 0, 1, 1, 2, 3, 199, 200, 1<<63 - 1}[rng.Intn(12)]
	}
	list := func() []int {
		l := make([]int, rng.Intn(4))
		for i := range l {
			l[i] = number()
		}
		return l
	}
	for range 20000 {
		p := api.Posn{Classes: make([]api.Class, rng.Intn(3)), Rules: list(), First: list(), Follow: make([][]int, rng.Intn(3))}
		p.Last, p.Empty = make([]bool, rng.Intn(3)), make([]bool, rng.Intn(25))
		for i := range p.Classes {
			p.Classes[i] = api.Class{rng.Uint64(), rng.Uint64(), rng.Uint64(), rng.Uint64()}
		}
		for i := range p.Follow {
			p.Follow[i] = list()
		}
		places.Check(p)
		for _, s := range texts {
			places.Run(p, s)
			places.Rules(p, s)
		}
	}
	for _, wrong := range wrongTrees() {
		places.Make([]api.Rex{wrong})
		places.Make(slices.Repeat([]api.Rex{wrong}, 20))
	}
	for range 200 {
		places.Make([]api.Rex{wildTree(rng, rng.Intn(300)), wildTree(rng, rng.Intn(300))})
	}
}

// room is the memory of a list, from its first byte to behind its spare room.
type room struct{ from, to uintptr }

// roomOf has the memory of a list, if it has any.
func roomOf[T any](list []T) []room {
	if cap(list) == 0 {
		return nil
	}
	from := uintptr(unsafe.Pointer(unsafe.SliceData(list)))
	var one T
	return []room{{from, from + uintptr(cap(list))*unsafe.Sizeof(one)}}
}

// posnRooms has the memory of all lists of p.
func posnRooms(p api.Posn) []room {
	l := slices.Concat(roomOf(p.Classes), roomOf(p.Rules), roomOf(p.First), roomOf(p.Follow), roomOf(p.Last), roomOf(p.Empty))
	for _, follow := range p.Follow {
		l = append(l, roomOf(follow)...)
	}
	return l
}

// treeRooms has the memory of all lists of some trees.
func treeRooms(trees []api.Rex) []room {
	l := roomOf(trees)
	for _, r := range trees {
		l = append(l, treeRooms(r.Kids)...)
	}
	return l
}

// apart: do these share no memory?
func apart(l []room) bool {
	slices.SortFunc(l, func(a, b room) int { return int(a.from) - int(b.from) })
	for i := 1; i < len(l); i++ {
		if l[i-1].to > l[i].from {
			return false
		}
	}
	return true
}

func TestP2AnswersAreNewMemory(t *testing.T) {
	rng := rand.New(rand.NewSource(8))
	for range 1000 {
		l := wildRules(rng, 8, 30)
		first, err := places.Make(l)
		second, _ := places.Make(l)
		if err != api.OK {
			continue
		}
		if !apart(slices.Concat(posnRooms(first), posnRooms(second), treeRooms(l))) {
			t.Fatalf("Make(%s): lists share their memory", show(l))
		}
		for _, s := range []string{"", "a", "b", "ab", "aab"} {
			at, _ := places.Run(first, s)
			again, _ := places.Run(first, s)
			done, _ := places.Rules(first, s)
			andAgain, _ := places.Rules(first, s)
			if !apart(slices.Concat(posnRooms(first), roomOf(at), roomOf(again), roomOf(done), roomOf(andAgain))) {
				t.Fatalf("%s, %q: lists share their memory", show(first), s)
			}
		}
	}
}

// roomy is a list with spare room behind it, in which spare stands.
func roomy[T any](list []T, spare T) []T {
	l := append(make([]T, 0, len(list)+2), list...)
	_ = append(l, spare, spare)
	return l
}

// roomyPosn is p with spare room behind each list.
func roomyPosn(p api.Posn) api.Posn {
	follow := make([][]int, len(p.Follow))
	for i, l := range p.Follow {
		follow[i] = roomy(l, 77)
	}
	return api.Posn{
		Classes: roomy(p.Classes, bytesOf("s")), Rules: roomy(p.Rules, 77), First: roomy(p.First, 77),
		Follow: roomy(follow, []int{7, 7}), Last: roomy(p.Last, true), Empty: roomy(p.Empty, true),
	}
}

// wholePosn is p with its spare room as a part of each list.
func wholePosn(p api.Posn) api.Posn {
	follow := slices.Clone(p.Follow[:cap(p.Follow)])
	for i, l := range follow {
		follow[i] = l[:cap(l)]
	}
	return api.Posn{
		Classes: p.Classes[:cap(p.Classes)], Rules: p.Rules[:cap(p.Rules)], First: p.First[:cap(p.First)],
		Follow: follow, Last: p.Last[:cap(p.Last)], Empty: p.Empty[:cap(p.Empty)],
	}
}

// roomyTrees has the trees with spare room behind each list.
func roomyTrees(l []api.Rex) []api.Rex {
	l = roomy(l, of("s"))
	for i, r := range l {
		l[i].Kids = roomyTrees(r.Kids)
	}
	return l
}

// wholeTrees has the trees with their spare room as a part of each list.
func wholeTrees(l []api.Rex) []api.Rex {
	l = slices.Clone(l[:cap(l)])
	for i, r := range l {
		l[i].Kids = wholeTrees(r.Kids)
	}
	return l
}

func TestP2WhatIsHandedInStays(t *testing.T) {
	rng := rand.New(rand.NewSource(9))
	for range 300 {
		l := wildRules(rng, 5, 20)
		trees := roomyTrees(l)
		p, err := places.Make(trees)
		if !reflect.DeepEqual(wholeTrees(trees), wholeTrees(roomyTrees(l))) {
			t.Fatalf("%s is changed", show(l))
		}
		if err != api.OK {
			continue
		}
		for _, p := range []api.Posn{p, wildRight(rng, 1+rng.Intn(9))} {
			given := roomyPosn(p)
			places.Check(given)
			for _, s := range []string{"", "a", wildText(rng, 4)} {
				places.Run(given, s)
				places.Rules(given, s)
			}
			if !reflect.DeepEqual(wholePosn(given), wholePosn(roomyPosn(p))) {
				t.Fatalf("%s is changed", show(p))
			}
		}
	}
}

func TestP2NothingIsKept(t *testing.T) {
	l := rules(t, "ab*", "c")
	p, _ := places.Make(l)
	want := copied(p)
	l[0].Kids[0].Class = bytesOf("x")
	l[1] = star(of("d"))
	if !same(p, want) {
		t.Errorf("it is changed with the rules: %s", show(p))
	}
	makes(t, l, byNet(l))
	runs(t, p, "ab", []int{1}, []int{0})
	at, _ := places.Run(p, "a")
	done, _ := places.Rules(p, "a")
	p.First[0], p.Follow[0][0], p.Last[0], p.Rules[2] = 1, 2, false, 0
	if !slices.Equal(at, []int{0}) || !slices.Equal(done, []int{0}) {
		t.Errorf("they are changed with what was handed in: %v, %v", at, done)
	}
	runs(t, p, "ab", nil, nil)
	runs(t, p, "b", []int{1}, []int{0})
	runs(t, p, "c", []int{2}, []int{0})
	places.Make(nil)
	places.Run(api.Posn{}, "a")
	places.Rules(p, strings.Repeat("a", 201))
	runs(t, p, "b", []int{1}, []int{0})
	makes(t, rules(t, "ab*", "c"), want)
}

func TestP2CallsAtOneTimeDoNotMeet(t *testing.T) {
	l := rules(t, "(a|b)*a", "a*", "()|c")
	want := byNet(l)
	var wait sync.WaitGroup
	for range 8 {
		wait.Go(func() {
			for range 100 {
				makes(t, l, want)
				runs(t, want, "ba", []int{0, 2}, []int{0})
				runs(t, want, "", nil, []int{1, 2})
				checks(t, want, api.OK)
			}
		})
	}
	wait.Wait()
}
