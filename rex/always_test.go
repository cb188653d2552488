package rex_test

import (
	"math/rand"
	"strings"
	"sync"
	"testing"
	"unsafe"

	"pushmill/api"
	"pushmill/rex"
)

// oddTrees has trees that are right, too great, wrong, or without an end.
func oddTrees() []api.Rex {
	rng := rand.New(rand.NewSource(6))
	l := append(hundred(), wrongNodes()...)
	l = append(l, withoutEnd()...)
	l = append(l, stars(29, of("a")), stars(30, of("a")), stars(5000, of("a")), full(7, of("a")), full(12, star(empty())))
	l = append(l, api.Rex{Kind: api.RAlt, Kids: make([]api.Rex, 1<<16)})
	for range 300 {
		l = append(l, wildTree(rng, 1+rng.Intn(120)))
	}
	return l
}

// oddTexts has texts of expressions, and others.
func oddTexts() []string {
	rng := rand.New(rand.NewSource(7))
	l := []string{"", "a", "(ab)+", "a+++", "(a|b+)+?", "[^]", "\x00", "日本", strings.Repeat("(", 1000), strings.Repeat("+", 300), "a" + strings.Repeat("+", 299), strings.Repeat("[", 300), strings.Repeat("\\", 300), strings.Repeat("a*+?", 75), strings.Repeat("x", 1<<16)}
	for range 300 {
		l = append(l, wildText(rng, 5, 3))
		noise := make([]byte, rng.Intn(310))
		rng.Read(noise)
		l = append(l, string(noise))
	}
	return l
}

func TestP1AnswersWhateverIsGiven(t *testing.T) {
	defer func() {
		if r := recover(); r != nil {
			t.Errorf("it panics: %v", r)
		}
	}()
	for _, r := range oddTrees() {
		rex.Check(r)
		rex.Print(r)
		for _, s := range []string{"", "a", "\xff\x00", strings.Repeat("a", 200), strings.Repeat("a", 201)} {
			rex.Matches(r, s)
		}
	}
	for _, s := range oddTexts() {
		r, at, err := rex.Parse(s)
		if err != api.OK && (!same(r, api.Rex{}) || at < 0 || at > len(s)) {
			t.Errorf("Parse(%.40q) = %s, %d, %d", s, show(r), at, err)
		}
		if err == api.OK && rex.Check(r) != api.OK {
			t.Errorf("Parse(%.40q) = %s, which is wrong", s, show(r))
		}
	}
}

// room is the memory of a list, from its first byte to behind its spare room.
type room struct{ from, to uintptr }

// rooms has the memory of all lists of r.
func rooms(r api.Rex) []room {
	var l []room
	if n := cap(r.Kids); n > 0 {
		from := uintptr(unsafe.Pointer(unsafe.SliceData(r.Kids)))
		l = append(l, room{from, from + uintptr(n)*unsafe.Sizeof(api.Rex{})})
	}
	for _, kid := range r.Kids {
		l = append(l, rooms(kid)...)
	}
	return l
}

func TestP2AnswersAreNewMemory(t *testing.T) {
	for _, s := range oddTexts() {
		first, _, err := rex.Parse(s)
		second, _, _ := rex.Parse(s)
		if err != api.OK {
			continue
		}
		l := append(rooms(first), rooms(second)...)
		for i, a := range l {
			for _, b := range l[:i] {
				if a.from < b.to && b.from < a.to {
					t.Fatalf("%q: lists share their memory", s)
				}
			}
		}
	}
}

// What a plus repeats is there twice: what is done to one of them is not seen in the other.
func TestP2WhatIsRepeatedIsApart(t *testing.T) {
	a, b := of("a"), of("b")
	r, _, err := rex.Parse("(ab)+")
	if err != api.OK {
		t.Fatal(err)
	}
	r.Kids[0].Kids[0] = of("x")
	_ = append(r.Kids[0].Kids[:1], of("y"))
	if other := r.Kids[1].Kids[0]; !same(other, cat(a, b)) {
		t.Errorf("the other one is %s", show(other))
	}
	if again, _, _ := rex.Parse("(ab)+"); !same(again, cat(cat(a, b), star(cat(a, b)))) {
		t.Errorf("read again: %s", show(again))
	}
}

// roomy is r with spare room behind each list, in which something stands.
func roomy(r api.Rex) api.Rex {
	kids := r.Kids
	r.Kids = make([]api.Rex, 0, len(kids)+2)
	for _, kid := range kids {
		r.Kids = append(r.Kids, roomy(kid))
	}
	_ = append(r.Kids, of("s"), of("t"))
	return r
}

// sameRoomy: is r that tree, with its spare room as it was?
func sameRoomy(r, want api.Rex) bool {
	if r.Kind != want.Kind || r.Class != want.Class || len(r.Kids) != len(want.Kids) || cap(r.Kids) != len(r.Kids)+2 {
		return false
	}
	spare := r.Kids[len(r.Kids):cap(r.Kids)]
	if !same(spare[0], of("s")) || !same(spare[1], of("t")) {
		return false
	}
	for i := range r.Kids {
		if !sameRoomy(r.Kids[i], want.Kids[i]) {
			return false
		}
	}
	return true
}

func TestP2WhatIsHandedInStays(t *testing.T) {
	rng := rand.New(rand.NewSource(8))
	for range 300 {
		want := wildTree(rng, 1+rng.Intn(60))
		r := roomy(want)
		rex.Check(r)
		rex.Print(r)
		rex.Matches(r, sample(rng, want, 2))
		if !sameRoomy(r, want) {
			t.Fatalf("%s is changed", show(want))
		}
	}
}

func TestP2NothingIsKept(t *testing.T) {
	r := cat(of("a"), star(of("b")))
	rex.Matches(r, "abb")
	rex.Print(r)
	r.Kids[1] = of("c")
	isText(t, r, "abb", false)
	isText(t, r, "ac", true)
	if s, err := rex.Print(r); s != "ac" || err != api.OK {
		t.Errorf("Print: %q, %d", s, err)
	}
	for _, s := range []string{"a)", strings.Repeat("(", 31), "[b-a]", "a(b", `\`} {
		rex.Parse(s)
		if got, _, err := rex.Parse("(a)c"); !same(got, r) || err != api.OK {
			t.Errorf("behind %q: %s, %d", s, show(got), err)
		}
	}
}

func TestP2CallsAtOneTimeDoNotMeet(t *testing.T) {
	r := star(alt(of("a"), cat(of("b"), of("cd"))))
	var wait sync.WaitGroup
	for range 8 {
		wait.Go(func() {
			for range 50 {
				is, err := rex.Matches(r, "abcabdbc")
				text, _ := rex.Print(r)
				back, _, _ := rex.Parse(text)
				if !is || err != api.OK || rex.Check(r) != api.OK || text != "(a|b[cd])*" || !same(back, r) {
					t.Errorf("%t, %d, %q, %s", is, err, text, show(back))
				}
			}
		})
	}
	wait.Wait()
}
