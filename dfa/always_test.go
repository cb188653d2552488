package dfa_test

import (
	"math/rand"
	"reflect"
	"slices"
	"strings"
	"sync"
	"testing"
	"unsafe"

	"pushmill/api"
	"pushmill/dfa"
)

func TestP1AnswersWhateverAutomatonIsGiven(t *testing.T) {
	rng := rand.New(rand.NewSource(10))
	texts := []string{"", "a", "\xff\x00", strings.Repeat("ab", 100), strings.Repeat("a", 1<<16)}
	numbers := []int16{-1 << 15, -2, -1, 0, 1, 2, 199, 200, 1<<15 - 1}
	tags := []int{-1 << 63, -2, -1, 0, 19, 20, 1<<63 - 1}
	for range 3000 {
		d := api.Dfa{Rows: make([]api.Row, rng.Intn(4)), Tags: make([]int, rng.Intn(4))}
		for state := range d.Rows {
			for b := range 256 {
				d.Rows[state][b] = numbers[2+rng.Intn(3)]
			}
			d.Rows[state][rng.Intn(256)] = numbers[rng.Intn(len(numbers))]
		}
		for state := range d.Tags {
			d.Tags[state] = tags[rng.Intn(len(tags))]
		}
		dfa.Check(d)
		for _, s := range texts {
			dfa.Run(d, s)
			dfa.Tag(d, s)
		}
	}
}

func TestP1AnswersWhateverPlacesAreGiven(t *testing.T) {
	rng := rand.New(rand.NewSource(11))
	list := func() []int {
		l := make([]int, rng.Intn(4))
		for i := range l {
			l[i] = []int{-1 << 63, -1, 0, 0, 0, 1, 1, 2, 3, 199, 200, 1<<63 - 1}[rng.Intn(12)]
		}
		return l
	}
	for range 20000 {
		p := api.Posn{Classes: make([]api.Class, rng.Intn(3)), Rules: list(), First: list(), Follow: make([][]int, rng.Intn(3))}
		p.Last, p.Empty = make([]bool, rng.Intn(3)), make([]bool, rng.Intn(25))
		for i := range p.Classes {
			p.Classes[i] = api.Class{rng.Uint64(), rng.Uint64(), rng.Uint64(), rng.Uint64()}
		}
		for i := range p.Follow {
			p.Follow[i] = list()
		}
		dfa.Make(p)
	}
}

// room is the memory of a list, from its first byte to behind its spare room.
type room struct{ from, to uintptr }

// roomOf has the memory of a list, if it has any.
func roomOf[T any](list []T) []room {
	if cap(list) == 0 {
		return nil
	}
	from := uintptr(unsafe.Pointer(unsafe.SliceData(list)))
	var one T
	return []room{{from, from + uintptr(cap(list))*unsafe.Sizeof(one)}}
}

// dfaRooms has the memory of all lists of d.
func dfaRooms(d api.Dfa) []room {
	return slices.Concat(roomOf(d.Rows), roomOf(d.Tags))
}

// posnRooms has the memory of all lists of p.
func posnRooms(p api.Posn) []room {
	l := slices.Concat(roomOf(p.Classes), roomOf(p.Rules), roomOf(p.First), roomOf(p.Follow), roomOf(p.Last), roomOf(p.Empty))
	for _, follow := range p.Follow {
		l = append(l, roomOf(follow)...)
	}
	return l
}

// apart: do these share no memory?
func apart(l []room) bool {
	slices.SortFunc(l, func(a, b room) int { return int(a.from) - int(b.from) })
	for i := 1; i < len(l); i++ {
		if l[i-1].to > l[i].from {
			return false
		}
	}
	return true
}

func TestP2AnswersAreNewMemory(t *testing.T) {
	rng := rand.New(rand.NewSource(12))
	for range 500 {
		p := wildPosn(rng, 1+rng.Intn(12), 1+rng.Intn(3))
		first, err := dfa.Make(p)
		second, _ := dfa.Make(p)
		if err == api.OK && !apart(slices.Concat(dfaRooms(first), dfaRooms(second), posnRooms(p))) {
			t.Fatalf("Make(%s): lists share their memory", show(p))
		}
	}
}

// roomy is a list with spare room behind it, in which spare stands.
func roomy[T any](list []T, spare T) []T {
	l := append(make([]T, 0, len(list)+2), list...)
	_ = append(l, spare, spare)
	return l
}

// roomyPosn is p with spare room behind each list.
func roomyPosn(p api.Posn) api.Posn {
	follow := make([][]int, len(p.Follow))
	for i, l := range p.Follow {
		follow[i] = roomy(l, 77)
	}
	return api.Posn{
		Classes: roomy(p.Classes, bytesOf("s")), Rules: roomy(p.Rules, 77), First: roomy(p.First, 77),
		Follow: roomy(follow, []int{7, 7}), Last: roomy(p.Last, true), Empty: roomy(p.Empty, true),
	}
}

// wholePosn is p with its spare room as a part of each list.
func wholePosn(p api.Posn) api.Posn {
	follow := slices.Clone(p.Follow[:cap(p.Follow)])
	for i, l := range follow {
		follow[i] = l[:cap(l)]
	}
	return api.Posn{
		Classes: p.Classes[:cap(p.Classes)], Rules: p.Rules[:cap(p.Rules)], First: p.First[:cap(p.First)],
		Follow: follow, Last: p.Last[:cap(p.Last)], Empty: p.Empty[:cap(p.Empty)],
	}
}

// roomyDfa is d with spare room behind each list.
func roomyDfa(d api.Dfa) api.Dfa {
	return api.Dfa{Rows: roomy(d.Rows, api.Row{7, 7}), Tags: roomy(d.Tags, 77)}
}

// wholeDfa is d with its spare room as a part of each list.
func wholeDfa(d api.Dfa) api.Dfa {
	return api.Dfa{Rows: d.Rows[:cap(d.Rows)], Tags: d.Tags[:cap(d.Tags)]}
}

func TestP2WhatIsHandedInStays(t *testing.T) {
	rng := rand.New(rand.NewSource(13))
	for range 300 {
		p := wildPosn(rng, 1+rng.Intn(12), 1+rng.Intn(3))
		given := roomyPosn(p)
		dfa.Make(given)
		if !reflect.DeepEqual(wholePosn(given), wholePosn(roomyPosn(p))) {
			t.Fatalf("%s is changed", show(p))
		}
		d := wildDfa(rng, 1+rng.Intn(9), 5)
		if rng.Intn(3) == 0 {
			d.Tags[0] = 20
		}
		handed := roomyDfa(d)
		dfa.Check(handed)
		dfa.Run(handed, wildText(rng, 5))
		dfa.Tag(handed, wildText(rng, 5))
		if !reflect.DeepEqual(wholeDfa(handed), wholeDfa(roomyDfa(d))) {
			t.Fatalf("%s is changed", brief(d))
		}
	}
}

func TestP2NothingIsKept(t *testing.T) {
	p := posn(t, "ab*", "a")
	want := built([]int{-1, 0, 0}, way{0, "a", 1}, way{1, "b", 2}, way{2, "b", 2})
	d, _ := dfa.Make(p)
	p.Classes[0], p.First, p.Last[1] = bytesOf("x"), []int{0}, false
	if !same(d, want) {
		t.Errorf("it is changed with the places: %s", brief(d))
	}
	makes(t, p, built([]int{-1, 0, -1}, way{0, "x", 1}, way{1, "b", 2}, way{2, "b", 2}))
	d.Rows[0]['a'], d.Tags[2] = 2, 9
	runs(t, d, "a", 2, 9)
	dfa.Make(line(200))
	dfa.Check(api.Dfa{})
	dfa.Run(idle(201), "a")
	runs(t, d, "a", 2, 9)
	makes(t, posn(t, "ab*", "a"), want)
}

func TestP2CallsAtOneTimeDoNotMeet(t *testing.T) {
	p, q := posn(t, "(a|b)*a", "a*", "()|c"), looksBack(t, 5)
	want, _ := byTexts(p, twins(p))
	also, _ := byTexts(q, twins(q))
	var wait sync.WaitGroup
	for range 8 {
		wait.Go(func() {
			for range 50 {
				makes(t, p, want)
				makes(t, q, also)
				refuses(t, line(200), api.ErrStates)
				runs(t, want, "c", 3, 2)
				checks(t, also, api.OK)
			}
		})
	}
	wait.Wait()
}
