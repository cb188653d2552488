package class_test

import (
	"encoding/binary"
	"fmt"
	"math"
	"math/rand"
	"slices"
	"strings"
	"sync"
	"testing"
	"unsafe"

	"pushmill/api"
	"pushmill/class"
)

// set is a class, told byte by byte.
type set [256]bool

// setOf has the bytes of which in holds.
func setOf(in func(b int) bool) set {
	var s set
	for b := range s {
		s[b] = in(b)
	}
	return s
}

// text is a set's bytes, rising.
func (s set) text() string {
	var l []byte
	for b, in := range s {
		if in {
			l = append(l, byte(b))
		}
	}
	return string(l)
}

// class is a set as the chapter has it: laid out as bytes first, so that it is made otherwise than by the program.
func (s set) class() api.Class {
	var raw [32]byte
	for b, in := range s {
		if in {
			raw[b/8] += byte(math.Pow(2, float64(b%8)))
		}
	}
	var c api.Class
	for i := range c {
		c[i] = binary.LittleEndian.Uint64(raw[8*i:])
	}
	return c
}

// of is the class of a text's bytes.
func of(text string) api.Class {
	return setOf(func(b int) bool { return strings.IndexByte(text, byte(b)) >= 0 }).class()
}

// show is classes for a message, by their bytes, cut off where they are long.
func show(l ...api.Class) string {
	var b strings.Builder
	for _, c := range l {
		fmt.Fprintf(&b, "%x ", c)
	}
	return b.String()[:min(b.Len(), 300)]
}

// oddSets has none, all, each single byte, each all but one, edges of words, every other byte, and sampled ones.
func oddSets() []set {
	l := []set{
		{},
		setOf(func(b int) bool { return true }),
		setOf(func(b int) bool { return b%2 == 0 }),
		setOf(func(b int) bool { return b%64 == 0 }),
		setOf(func(b int) bool { return b%64 == 63 }),
		setOf(func(b int) bool { return b%64 == 0 || b%64 == 63 }),
		setOf(func(b int) bool { return b >= 'a' && b <= 'z' }),
		setOf(func(b int) bool { return b != '\n' }),
	}
	for word := range 4 {
		l = append(l, setOf(func(b int) bool { return b/64 == word }), setOf(func(b int) bool { return b/64 != word }))
	}
	for one := range 256 {
		l = append(l, setOf(func(b int) bool { return b == one }), setOf(func(b int) bool { return b != one }))
	}
	rng := rand.New(rand.NewSource(1))
	for _, odds := range []int{2, 3, 10, 100} {
		for range 20 {
			l = append(l, setOf(func(b int) bool { return rng.Intn(odds) == 0 }))
		}
	}
	return l
}

// oddClasses has the odd sets as classes.
func oddClasses() []api.Class {
	var l []api.Class
	for _, s := range oddSets() {
		l = append(l, s.class())
	}
	return l
}

// oddEnds has numbers at the edges of bytes, words and integers.
func oddEnds() []int {
	l := []int{
		math.MinInt, math.MinInt + 1, math.MinInt + 256, math.MinInt32 - 1, math.MinInt32, -1 << 16, -512, -257, -256, -255, -193, -192, -129, -128, -65, -64, -63,
		300, 319, 320, 321, 511, 512, 1 << 16, 1<<32 - 1, 1 << 32, 1<<32 + 97, math.MaxInt32, math.MaxInt - 256, math.MaxInt - 192, math.MaxInt - 1, math.MaxInt,
	}
	for n := -3; n <= 258; n++ {
		l = append(l, n)
	}
	return l
}

func TestP10BitsAreWhereTheChapterSays(t *testing.T) {
	for _, c := range []struct {
		want     api.Class
		from, to int
	}{
		{api.Class{1, 0, 0, 0}, 0, 0},
		{api.Class{1 << 63, 0, 0, 0}, 63, 63},
		{api.Class{0, 1, 0, 0}, 64, 64},
		{api.Class{0, 2 << 32, 0, 0}, 'a', 'a'},
		{api.Class{0, 0, 1, 0}, 128, 128},
		{api.Class{0, 0, 0, 1 << 63}, 255, 255},
		{api.Class{3 << 62, 7, 0, 0}, 62, 66},
		{api.Class{0, math.MaxUint64, 0, 0}, 64, 127},
		{api.Class{math.MaxUint64, math.MaxUint64, math.MaxUint64, math.MaxUint64}, 0, 255},
	} {
		if got := class.Range(c.from, c.to); got != c.want {
			t.Errorf("from %d to %d: %x, not %x", c.from, c.to, [4]uint64(got), [4]uint64(c.want))
		}
		for b := range 256 {
			if got := class.Has(c.want, byte(b)); got != (b >= c.from && b <= c.to) {
				t.Errorf("is %d of those from %d to %d: %t", b, c.from, c.to, got)
			}
		}
	}
}

func TestP10RangeOfAllEnds(t *testing.T) {
	for _, lo := range oddEnds() {
		for _, hi := range oddEnds() {
			want := setOf(func(b int) bool { return lo <= b && b <= hi }).class()
			if got := class.Range(lo, hi); got != want {
				t.Fatalf("from %d to %d: %s", lo, hi, show(got))
			}
		}
	}
}

func TestP10RangeThatHasNone(t *testing.T) {
	for _, ends := range [][2]int{{9, 3}, {1, 0}, {255, 254}, {256, 255}, {256, 300}, {-9, -1}, {0, -1}, {math.MaxInt, math.MinInt}, {math.MaxInt, math.MaxInt}, {math.MinInt, math.MinInt}} {
		if got := class.Range(ends[0], ends[1]); got != (api.Class{}) {
			t.Errorf("from %d to %d: %s", ends[0], ends[1], show(got))
		}
	}
}

func TestP10OneClass(t *testing.T) {
	for _, s := range oddSets() {
		c := s.class()
		for b, in := range s {
			if class.Has(c, byte(b)) != in {
				t.Errorf("%s: is %d in it: %t", show(c), b, !in)
			}
		}
		if got := class.Bytes(c); got != s.text() {
			t.Errorf("%s: its bytes are %x", show(c), got)
		}
		if got := class.Count(c); got != len(s.text()) {
			t.Errorf("%s: it has %d", show(c), got)
		}
		if got := class.Not(c); got != setOf(func(b int) bool { return !s[b] }).class() {
			t.Errorf("%s: the others are %s", show(c), show(got))
		}
	}
}

func TestP10TwoClasses(t *testing.T) {
	sets, classes := oddSets(), oddClasses()
	for i, s := range sets {
		for j, u := range sets {
			if (i+j)%7 > 0 && i > 20 && j > 20 {
				continue // one pair of seven is enough, among so many single bytes
			}
			if got := class.Join(classes[i], classes[j]); got != setOf(func(b int) bool { return s[b] || u[b] }).class() {
				t.Fatalf("%s or %s: %s", show(classes[i]), show(classes[j]), show(got))
			}
			if got := class.Meet(classes[i], classes[j]); got != setOf(func(b int) bool { return s[b] && u[b] }).class() {
				t.Fatalf("%s and %s: %s", show(classes[i]), show(classes[j]), show(got))
			}
		}
	}
}

// read is a class as a set: by its words' digits of base 2, otherwise than by the program.
func read(c api.Class) set {
	var digits string
	for _, w := range c {
		digits = fmt.Sprintf("%064b", w) + digits
	}
	return setOf(func(b int) bool { return digits[255-b] == '1' })
}

// plainParts groups the bytes by which of l they are in, going through them from the least on: so a part comes with its least byte.
func plainParts(l []api.Class) []api.Class {
	kinds := make([]strings.Builder, 256)
	for _, c := range l {
		for b, in := range read(c) {
			fmt.Fprintf(&kinds[b], "%t ", in)
		}
	}
	var parts []set
	place := map[string]int{}
	for b := range kinds {
		n, known := place[kinds[b].String()]
		if !known {
			n = len(parts)
			place[kinds[b].String()] = n
			parts = append(parts, set{})
		}
		parts[n][b] = true
	}
	var told []api.Class
	for _, s := range parts {
		told = append(told, s.class())
	}
	return told
}

// sameParts holds the parts of l against the plain ones.
func sameParts(t *testing.T, l []api.Class) {
	t.Helper()
	if got, want := class.Parts(l), plainParts(l); !slices.Equal(got, want) {
		t.Fatalf("of %s: %s, not %s", show(l...), show(got...), show(want...))
	}
}

// bitClasses has for each bit of a byte the bytes in which it is 1: together they tell all bytes apart.
func bitClasses() []api.Class {
	var l []api.Class
	for bit := range 8 {
		l = append(l, setOf(func(b int) bool { return b>>bit%2 == 1 }).class())
	}
	return l
}

// singles has a class for each byte of its own, the greatest first.
func singles() []api.Class {
	var l []api.Class
	for b := 255; b >= 0; b-- {
		l = append(l, of(string([]byte{byte(b)})))
	}
	return l
}

// upToEach has for each byte but the greatest the bytes up to it.
func upToEach() []api.Class {
	var l []api.Class
	for last := range 255 {
		l = append(l, setOf(func(b int) bool { return b <= last }).class())
	}
	return l
}

// oddLists has lists of none, of one, of classes that repeat, lie in each other or apart, and of those that leave single bytes.
func oddLists() [][]api.Class {
	none, all := api.Class{}, class.Not(api.Class{})
	letters, hex := of("abcdefghijklmnopqrstuvwxyz"), of("0123456789abcdef")
	lists := [][]api.Class{
		nil, {}, {none}, {all}, {none, all, none},
		{letters}, {class.Not(letters)}, {letters, class.Not(letters)}, {letters, letters, letters}, {none, letters, all, letters},
		{letters, hex}, {hex, letters}, {hex, letters, hex, class.Not(hex)}, {of("abc"), of("xyz")}, {of("abcdef"), of("cd"), of("c")},
		{of("\x00")}, {of("\xff")}, {of("\x00\xff"), of("\x3f\x40"), of("\x7f\x80"), of("\xbf\xc0")},
		bitClasses(), bitClasses()[:7], bitClasses()[1:], append(bitClasses(), letters), append(bitClasses(), bitClasses()...),
		singles(), singles()[1:], singles()[2:], singles()[:254], append(singles(), hex), upToEach(), upToEach()[1:], upToEach()[:253],
	}
	repeated := slices.Repeat([]api.Class{letters, hex}, 500)
	return append(lists, slices.Concat(repeated, bitClasses(), repeated), oddClasses())
}

func TestP11PartsKnown(t *testing.T) {
	early, late := of("abcdef"), of("defghijklmnopqrstuvwxyz")
	letters := of("abcdefghijklmnopqrstuvwxyz")
	all := class.Not(api.Class{})
	for _, c := range []struct {
		l, want []api.Class
	}{
		{nil, []api.Class{all}},
		{[]api.Class{}, []api.Class{all}},
		{[]api.Class{{}}, []api.Class{all}},
		{[]api.Class{all}, []api.Class{all}},
		{[]api.Class{early, late}, []api.Class{class.Not(letters), of("abc"), of("def"), of("ghijklmnopqrstuvwxyz")}},
		{[]api.Class{late, early}, []api.Class{class.Not(letters), of("abc"), of("def"), of("ghijklmnopqrstuvwxyz")}},
		{[]api.Class{of("\x00")}, []api.Class{of("\x00"), class.Not(of("\x00"))}},
		{[]api.Class{of("\xff")}, []api.Class{class.Not(of("\xff")), of("\xff")}},
		{[]api.Class{class.Not(of("az"))}, []api.Class{class.Not(of("az")), of("az")}},
		{[]api.Class{of("bd"), of("ac")}, []api.Class{class.Not(of("abcd")), of("ac"), of("bd")}},
	} {
		if got := class.Parts(c.l); !slices.Equal(got, c.want) {
			t.Errorf("of %s: %s, not %s", show(c.l...), show(got...), show(c.want...))
		}
	}
}

func TestP11PartsOfOddLists(t *testing.T) {
	for _, l := range oddLists() {
		sameParts(t, l)
	}
	for _, c := range oddClasses() {
		sameParts(t, []api.Class{c})
	}
}

func TestP11PartsOfSingleBytes(t *testing.T) {
	want := singles()
	slices.Reverse(want)
	for i, l := range [][]api.Class{bitClasses(), singles(), singles()[1:], upToEach(), oddClasses()} {
		if got := class.Parts(l); !slices.Equal(got, want) {
			t.Errorf("list %d has %d parts: %s", i, len(got), show(got...))
		}
	}
}

// All lists of up to three of the sixteen classes of four bytes at the edges of words.
func TestP11PartsOfAllShortLists(t *testing.T) {
	const edges = "\x00\x3f\x40\xff"
	var few []api.Class
	for chosen := range 1 << len(edges) {
		few = append(few, setOf(func(b int) bool {
			i := strings.IndexByte(edges, byte(b))
			return i >= 0 && chosen>>i%2 == 1
		}).class())
	}
	for _, c := range few {
		sameParts(t, []api.Class{c})
		for _, d := range few {
			sameParts(t, []api.Class{c, d})
			for _, e := range few {
				sameParts(t, []api.Class{c, d, e})
			}
		}
	}
}

func TestP11PartsOfWildLists(t *testing.T) {
	rng := rand.New(rand.NewSource(2))
	odd := oddClasses()
	for range 300 {
		var l []api.Class
		for range rng.Intn(12) {
			lo, hi := rng.Intn(256), rng.Intn(256)
			run := setOf(func(b int) bool { return b >= lo && b <= hi }).class()
			l = append(l, run, odd[rng.Intn(len(odd))])
		}
		sameParts(t, l)
	}
}

// owners is which part each byte is in; parts that are empty, out of order, or don't have each byte just once, are told.
func owners(t *testing.T, parts []api.Class) [256]int {
	t.Helper()
	var owner, times [256]int
	last := -1
	for n, p := range parts {
		text := read(p).text()
		if text == "" || int(text[0]) <= last {
			t.Fatalf("part %d is empty, or comes too late: %x", n, text)
		}
		last = int(text[0])
		for _, b := range []byte(text) {
			owner[b] = n
			times[b]++
		}
	}
	for b, n := range times {
		if n != 1 {
			t.Fatalf("byte %d is in %d parts", b, n)
		}
	}
	return owner
}

// What the chapter says of parts, word by word, beside the plain grouping.
func TestP11PartsAreAsTold(t *testing.T) {
	for i, l := range oddLists() {
		owner := owners(t, class.Parts(l))
		var sets []set
		for _, c := range l {
			sets = append(sets, read(c))
		}
		for b := range 256 {
			for other := range b {
				apart := slices.ContainsFunc(sets, func(s set) bool { return s[b] != s[other] })
				if (owner[b] != owner[other]) != apart {
					t.Fatalf("list %d tells %d and %d apart: %t; their parts are %d and %d", i, other, b, apart, owner[other], owner[b])
				}
			}
		}
	}
}

func TestP11OrderAndRepeatsDoNotMatter(t *testing.T) {
	rng := rand.New(rand.NewSource(3))
	for i, l := range oddLists() {
		want := class.Parts(l)
		other := append(slices.Clone(l), l...)
		for range 5 {
			rng.Shuffle(len(other), func(i, j int) { other[i], other[j] = other[j], other[i] })
			if got := class.Parts(other); !slices.Equal(got, want) {
				t.Errorf("list %d in another order: %s, not %s", i, show(got...), show(want...))
			}
		}
	}
}

// Cutting parts along themselves, or along their others, leaves them.
func TestP11PartsOfPartsAreTheSame(t *testing.T) {
	for i, l := range oddLists() {
		want := class.Parts(l)
		again := slices.Clone(want)
		for _, c := range want {
			again = append(again, class.Not(c))
		}
		if got := class.Parts(again); !slices.Equal(got, want) {
			t.Errorf("list %d: parts of parts are %s, not %s", i, show(got...), show(want...))
		}
	}
}

func TestP1AnswersWhateverIsGiven(t *testing.T) {
	defer func() {
		if r := recover(); r != nil {
			t.Errorf("it panics: %v", r)
		}
	}()
	for _, lo := range oddEnds() {
		for _, hi := range oddEnds() {
			class.Range(lo, hi)
		}
	}
	for _, c := range oddClasses() {
		class.Join(c, class.Not(c))
		class.Meet(c, class.Not(c))
		class.Count(c)
		class.Bytes(c)
		for b := range 256 {
			class.Has(c, byte(b))
		}
	}
	for _, l := range oddLists() {
		class.Parts(l)
	}
}

// All classes of sixteen bytes, so that many differ and yet leave few parts.
func TestP1ALongListIsAnswered(t *testing.T) {
	var l []api.Class
	for words := range uint64(1 << 16) {
		l = append(l, api.Class{words << 1, 0, 0, 0})
	}
	want := []api.Class{class.Not(class.Range(1, 16))}
	for b := 1; b <= 16; b++ {
		want = append(want, class.Range(b, b))
	}
	if got := class.Parts(slices.Repeat(l, 4)); !slices.Equal(got, want) {
		t.Errorf("parts: %s", show(got...))
	}
}

// meet tells whether two lists share memory, their spare room included.
func meet(a, b []api.Class) bool {
	if cap(a) == 0 || cap(b) == 0 {
		return false
	}
	fromA, fromB := uintptr(unsafe.Pointer(unsafe.SliceData(a))), uintptr(unsafe.Pointer(unsafe.SliceData(b)))
	size := unsafe.Sizeof(api.Class{})
	return fromA < fromB+uintptr(cap(b))*size && fromB < fromA+uintptr(cap(a))*size
}

func TestP2AnswersAreNewMemory(t *testing.T) {
	for i, l := range oddLists() {
		first := class.Parts(l)
		second := class.Parts(l)
		if meet(first, l) || meet(second, l) || meet(first, second) {
			t.Errorf("the parts of list %d share their memory", i)
		}
		// Parts that are handed in again are as their answer might be: here too it is new.
		if again := class.Parts(first); meet(again, first) {
			t.Errorf("the parts of the parts of list %d share their memory", i)
		}
	}
}

func TestP2WhatIsHandedInStays(t *testing.T) {
	for i, l := range oddLists() {
		room := append(slices.Clone(l), of("behind"), of("it"))
		before := slices.Clone(room)
		class.Parts(room[:len(l)])
		if !slices.Equal(room, before) {
			t.Errorf("list %d is changed", i)
		}
	}
	c, d := of("abc"), of("bcd")
	class.Join(c, d)
	class.Meet(c, d)
	class.Not(c)
	if c != of("abc") || d != of("bcd") {
		t.Errorf("classes are changed: %s", show(c, d))
	}
}

func TestP2NothingIsKept(t *testing.T) {
	l := []api.Class{of("abc"), of("cd")}
	want := plainParts(l)
	class.Parts(bitClasses())
	first := class.Parts(l)
	l[0] = of("x")
	if !slices.Equal(first, want) {
		t.Errorf("told: %s", show(first...))
	}
	first[0] = of("y")
	_ = append(first[:1], of("z"))
	if again := class.Parts([]api.Class{of("abc"), of("cd")}); !slices.Equal(again, want) {
		t.Errorf("told again: %s", show(again...))
	}
	if got := class.Parts(l); !slices.Equal(got, plainParts(l)) {
		t.Errorf("of what is changed: %s", show(got...))
	}
}

func TestP2CallsAtOneTimeDoNotMeet(t *testing.T) {
	lists := oddLists()
	got := make([][]api.Class, len(lists))
	var wait sync.WaitGroup
	for i, l := range lists {
		wait.Go(func() { got[i] = class.Parts(l) })
	}
	wait.Wait()
	for i, l := range lists {
		if !slices.Equal(got[i], plainParts(l)) {
			t.Errorf("list %d: %s", i, show(got[i]...))
		}
	}
}
