package spec_test

import (
	"fmt"
	"math"
	"math/rand"
	"reflect"
	"slices"
	"strings"
	"sync"
	"testing"
	"unsafe"

	"pushmill/api"
	"pushmill/spec"
)

// anyText has bytes of all kinds, or pieces such as the text of a Spec has.
func anyText(rng *rand.Rand, length int) string {
	if rng.Intn(2) == 0 {
		l := make([]byte, length)
		rng.Read(l)
		return string(l)
	}
	var b strings.Builder
	for b.Len() < length {
		b.WriteString(pick(rng, "token ", "skip ", "rule ", " =", "a", "s", " ", "\n", "\n", "(", "a*\n", "rule s =\n", "skip a\n"))
	}
	return b.String()[:length]
}

// oddRexes are right, wrong, too great, or without an end.
func oddRexes() []api.Rex {
	one := []api.Rex{{Kind: api.RStar}}
	one[0].Kids = one
	two := []api.Rex{{Kind: api.RCat}, {Kind: api.RAlt}}
	two[0].Kids, two[1].Kids = two, two
	deep := must("a")
	for range 5000 {
		deep = api.Rex{Kind: api.RStar, Kids: []api.Rex{deep}}
	}
	l := []api.Rex{{}, one[0], two[0], deep, {Kind: math.MinInt}, {Kind: math.MaxInt}, {Kind: api.RAlt, Kids: make([]api.Rex, 1<<16)}}
	for kind := range 8 {
		l = append(l, api.Rex{Kind: kind}, api.Rex{Kind: kind, Class: api.Class{1}}, api.Rex{Kind: kind, Kids: []api.Rex{must("a")}})
	}
	for _, source := range sources() {
		l = append(l, must(source))
	}
	return l
}

// anySpec may be right or wrong.
func anySpec(rng *rand.Rand) api.Spec {
	s := spoilt(rng, wildOne(rng))
	if rng.Intn(4) == 0 && len(s.Words) > 0 {
		s.Words[rng.Intn(len(s.Words))].Rex = pick(rng, oddRexes()...)
	}
	return s
}

func TestP1AnswersWhateverIsGiven(t *testing.T) {
	rng := rand.New(rand.NewSource(11))
	lengths := []int{0, 1, 2, 3, 9, 50, 300, 4095, 4096, 4097, 5000}
	counts := map[api.Errno]int{}
	for range 4000 {
		s := anySpec(rng)
		want := plainCheck(s)
		if want != api.OK {
			refused(t, s, want)
		} else {
			checks(t, s, want)
			writes(t, s, plainWrite(s))
			makesPlainly(t, s)
		}
		counts[want]++
		readsPlainly(t, anyText(rng, lengths[rng.Intn(len(lengths))]))
	}
	if counts[api.OK] < 500 || counts[api.ErrArg] < 200 || counts[api.ErrName] < 200 {
		t.Errorf("told: %v", counts)
	}
}

func TestP1HugeThings(t *testing.T) {
	long := strings.Repeat("a", 1<<20)
	refused(t, api.Spec{Words: make([]api.Word, 1<<16), Rules: make([]api.Rule, 1<<16)}, api.ErrLarge)
	refused(t, api.Spec{Words: []api.Word{{Name: long}}}, api.ErrArg)
	refused(t, api.Spec{Rules: []api.Rule{{Head: long}}}, api.ErrArg)
	refused(t, api.Spec{Rules: []api.Rule{{Head: "s", Body: []string{long}}}}, api.ErrName)
	refused(t, api.Spec{Rules: []api.Rule{{Head: "s", Body: make([]string, 1<<20)}}}, api.ErrName)
	wide := slices.Repeat([]string{"s"}, 1<<20)
	s := api.Spec{Words: said("a: a").Words, Rules: slices.Repeat([]api.Rule{{Head: "s", Body: wide}}, 4)}
	checks(t, s, api.OK)
	makeFails(t, s, api.ErrLarge)
	if text, err := spec.Write(s); len(text) != 10+4*(9+1<<21) || err != api.OK {
		t.Errorf("written: %d bytes, %d", len(text), err)
	}
	wide[1<<20-1] = "b"
	refused(t, s, api.ErrName)
	readFails(t, strings.Repeat("skip a\n", 1<<20), 0, api.ErrLarge)
	readFails(t, strings.Repeat("\n", 1<<20), 0, api.ErrLarge)
	readFails(t, strings.Repeat("\n", 4096), 1, api.ErrSyntax)
	m := madeOf(t, sums())
	for _, n := range []api.Made{
		{Of: make([]int, 1<<20), Lexer: m.Lexer, Grammar: m.Grammar, Mode: 1, Rows: m.Rows},
		{Of: m.Of, Lexer: m.Lexer, Grammar: m.Grammar, Mode: 1, Rows: make([][]int, 1<<20)},
		{Of: m.Of, Lexer: m.Lexer, Grammar: m.Grammar, Mode: 1, Rows: [][]int{make([]int, 1<<20), nil}},
		{Of: m.Of, Lexer: m.Lexer, Grammar: api.Grammar{Terms: math.MaxInt, Nons: math.MaxInt}, Mode: 1},
		{Of: m.Of, Lexer: m.Lexer, Grammar: api.Grammar{Nons: 1, Prods: make([]api.Prod, 1<<20)}, Mode: 2},
		{Of: m.Of, Lexer: api.Packed{Next: [][]int{make([]int, 1<<20)}, Tags: []int{-1}}, Grammar: m.Grammar, Mode: 1, Rows: m.Rows},
	} {
		right(t, n, api.ErrArg)
	}
	right(t, api.Made{Lexer: api.Packed{Next: make([][]int, 1<<20)}}, api.ErrLarge)
	right(t, api.Made{Of: m.Of, Lexer: m.Lexer, Grammar: m.Grammar, Mode: 2, Table: api.Table{Acts: make([][]api.Act, 1<<20)}}, api.ErrLarge)
}

func TestP1OddExpressions(t *testing.T) {
	for _, r := range oddRexes() {
		for _, name := range []string{"", "a", "A"} {
			s := api.Spec{Words: []api.Word{{Name: name, Rex: r}}, Rules: []api.Rule{{Head: "s"}}}
			if want := plainCheck(s); want != api.OK {
				refused(t, s, want)
			} else {
				makesPlainly(t, s)
			}
		}
	}
}

func TestP1AnyMadeIsAnswered(t *testing.T) {
	rng := rand.New(rand.NewSource(12))
	l := append(someMade(rng, 30), api.Made{Lexer: api.Packed{Next: [][]int{{}}, Tags: []int{0}}})
	for range 10000 {
		m, other := pick(rng, l...), pick(rng, l...)
		switch rng.Intn(5) {
		case 0:
			m.Of = other.Of
		case 1:
			m.Lexer = other.Lexer
		case 2:
			m.Grammar = other.Grammar
		case 3:
			m.Rows, m.Table = other.Rows, other.Table
		case 4:
			m.Mode = 3 - m.Mode
		}
		right(t, m, plainRight(m))
	}
	right(t, api.Made{}, api.ErrArg)
}

// room is the memory of a list, from its first byte to behind its spare room.
type room struct{ from, to uintptr }

// roomOf has the memory of a list, if it has any.
func roomOf[T any](list []T) []room {
	if cap(list) == 0 {
		return nil
	}
	from := uintptr(unsafe.Pointer(unsafe.SliceData(list)))
	var one T
	return []room{{from, from + uintptr(cap(list))*unsafe.Sizeof(one)}}
}

// listRooms has the memory of a list of lists.
func listRooms[T any](lists [][]T) []room {
	l := roomOf(lists)
	for _, list := range lists[:cap(lists)] {
		l = append(l, roomOf(list)...)
	}
	return l
}

// textRoom has the memory of a text.
func textRoom(s string) []room {
	if s == "" {
		return nil
	}
	from := uintptr(unsafe.Pointer(unsafe.StringData(s)))
	return []room{{from, from + uintptr(len(s))}}
}

func rexRooms(r api.Rex) []room {
	l := roomOf(r.Kids)
	for _, kid := range r.Kids {
		l = append(l, rexRooms(kid)...)
	}
	return l
}

// specRooms has the memory of all lists of s, and of its names.
func specRooms(s api.Spec) []room {
	l := slices.Concat(roomOf(s.Words), roomOf(s.Rules))
	for _, w := range s.Words {
		l = slices.Concat(l, textRoom(w.Name), rexRooms(w.Rex))
	}
	for _, r := range s.Rules {
		l = slices.Concat(l, textRoom(r.Head), roomOf(r.Body))
		for _, name := range r.Body {
			l = append(l, textRoom(name)...)
		}
	}
	return l
}

func madeRooms(m api.Made) []room {
	l := slices.Concat(roomOf(m.Of), listRooms(m.Lexer.Next), roomOf(m.Lexer.Tags), roomOf(m.Grammar.Prods), listRooms(m.Rows))
	for _, p := range m.Grammar.Prods {
		l = append(l, roomOf(p.Body)...)
	}
	return slices.Concat(l, listRooms(m.Table.Acts), listRooms(m.Table.Goto))
}

// apart: do these share no memory?
func apart(l []room) bool {
	slices.SortFunc(l, func(a, b room) int { return int(a.from) - int(b.from) })
	for i := 1; i < len(l); i++ {
		if l[i-1].to > l[i].from {
			return false
		}
	}
	return true
}

func TestP2AnswersAreNewMemory(t *testing.T) {
	rng := rand.New(rand.NewSource(13))
	taken := 0
	for range 500 {
		given := roomySpec(wildOne(rng))
		text := plainWrite(given)
		one, _, _ := spec.Read(text)
		other, _, _ := spec.Read(text)
		if !apart(slices.Concat(textRoom(text), specRooms(one), specRooms(other))) {
			t.Fatalf("%q: what is read shares its memory", text)
		}
		first, _ := spec.Write(given)
		second, _ := spec.Write(given)
		for _, name := range namesIn(given) {
			if !apart(slices.Concat(textRoom(name), textRoom(first), textRoom(second))) {
				t.Fatalf("%q shares its memory with %q", first, name)
			}
		}
	}
	for range 1500 {
		given := roomySpec(wild(rng, 1+rng.Intn(6), 1+rng.Intn(4), rng.Intn(4), 3))
		m, err := spec.Make(given)
		n, _ := spec.Make(given)
		if !apart(slices.Concat(listsIn(given), madeRooms(m), madeRooms(n))) {
			t.Fatalf("what is made of %s shares its memory", show(given))
		}
		if err == api.OK {
			taken++
		}
	}
	if taken < 200 {
		t.Errorf("only %d are taken", taken)
	}
}

// namesIn are all names of s.
func namesIn(s api.Spec) []string {
	var l []string
	for _, w := range s.Words {
		l = append(l, w.Name)
	}
	for _, r := range s.Rules {
		l = append(append(l, r.Head), r.Body...)
	}
	return l
}

// listsIn has the memory of the lists of s, but not of its names, which may be one text.
func listsIn(s api.Spec) []room {
	l := slices.Concat(roomOf(s.Words), roomOf(s.Rules))
	for _, r := range s.Rules {
		l = append(l, roomOf(r.Body)...)
	}
	return l
}

// roomy is a list with spare room behind it, in which spare stands.
func roomy[T any](list []T, spare T) []T {
	l := append(make([]T, 0, len(list)+2), list...)
	_ = append(l, spare, spare)
	return l
}

func roomyRex(r api.Rex) api.Rex {
	kids := make([]api.Rex, len(r.Kids))
	for i, kid := range r.Kids {
		kids[i] = roomyRex(kid)
	}
	r.Kids = roomy(kids, must("z"))
	return r
}

// roomySpec is s with spare room behind each list.
func roomySpec(s api.Spec) api.Spec {
	var words []api.Word
	for _, w := range s.Words {
		words = append(words, api.Word{Name: w.Name, Rex: roomyRex(w.Rex)})
	}
	var rules []api.Rule
	for _, r := range s.Rules {
		rules = append(rules, api.Rule{Head: r.Head, Body: roomy(r.Body, "spare")})
	}
	return api.Spec{Words: roomy(words, api.Word{Name: "-"}), Rules: roomy(rules, api.Rule{Head: "-", Body: []string{"-"}})}
}

func wholeRex(r api.Rex) api.Rex {
	r.Kids = slices.Clone(r.Kids[:cap(r.Kids)])
	for i, kid := range r.Kids {
		r.Kids[i] = wholeRex(kid)
	}
	return r
}

// wholeSpec is s with its spare room as a part of each list.
func wholeSpec(s api.Spec) api.Spec {
	s = api.Spec{Words: slices.Clone(s.Words[:cap(s.Words)]), Rules: slices.Clone(s.Rules[:cap(s.Rules)])}
	for i, w := range s.Words {
		s.Words[i].Rex = wholeRex(w.Rex)
	}
	for i, r := range s.Rules {
		s.Rules[i].Body = r.Body[:cap(r.Body)]
	}
	return s
}

func roomyLists[T any](lists [][]T, spare T) [][]T {
	var l [][]T
	for _, list := range lists {
		l = append(l, roomy(list, spare))
	}
	return roomy(l, []T{spare})
}

// roomyMade is m with spare room behind each list.
func roomyMade(m api.Made) api.Made {
	var prods []api.Prod
	for _, p := range m.Grammar.Prods {
		prods = append(prods, prod(p.Head, roomy(p.Body, term(77))...))
	}
	m.Of, m.Grammar.Prods, m.Rows = roomy(m.Of, 77), roomy(prods, prod(77, term(77))), roomyLists(m.Rows, 77)
	m.Lexer.Next, m.Lexer.Tags = roomyLists(m.Lexer.Next, 77), roomy(m.Lexer.Tags, 77)
	m.Table = api.Table{Acts: roomyLists(m.Table.Acts, api.Act{Kind: 77}), Goto: roomyLists(m.Table.Goto, 77)}
	return m
}

func wholeLists[T any](lists [][]T) [][]T {
	l := slices.Clone(lists[:cap(lists)])
	for i, list := range l {
		l[i] = list[:cap(list)]
	}
	return l
}

// wholeMade is m with its spare room as a part of each list.
func wholeMade(m api.Made) api.Made {
	m.Of = m.Of[:cap(m.Of)]
	m.Grammar.Prods = slices.Clone(m.Grammar.Prods[:cap(m.Grammar.Prods)])
	for i, p := range m.Grammar.Prods {
		m.Grammar.Prods[i].Body = p.Body[:cap(p.Body)]
	}
	m.Lexer.Next, m.Lexer.Tags = wholeLists(m.Lexer.Next), m.Lexer.Tags[:cap(m.Lexer.Tags)]
	m.Rows, m.Table = wholeLists(m.Rows), api.Table{Acts: wholeLists(m.Table.Acts), Goto: wholeLists(m.Table.Goto)}
	return m
}

func TestP2WhatIsHandedInStays(t *testing.T) {
	rng := rand.New(rand.NewSource(14))
	for range 1500 {
		s := spoilt(rng, wildOne(rng))
		given := roomySpec(s)
		spec.Check(given)
		spec.Write(given)
		spec.Make(given)
		if !reflect.DeepEqual(wholeSpec(given), wholeSpec(roomySpec(s))) {
			t.Fatalf("%s is changed", show(s))
		}
	}
	for _, m := range someMade(rng, 100) {
		m = anyMade(rng, m)
		given := roomyMade(m)
		spec.Right(given)
		if !reflect.DeepEqual(wholeMade(given), wholeMade(roomyMade(m))) {
			t.Fatalf("%s is changed", show(m))
		}
	}
}

// Spare room behind a list is no part of it.
func TestP2SpareRoomDoesNotCount(t *testing.T) {
	rng := rand.New(rand.NewSource(15))
	for range 500 {
		s := wildOne(rng)
		checks(t, roomySpec(s), api.OK)
		if text, err := spec.Write(roomySpec(s)); text != plainWrite(s) || err != api.OK {
			t.Fatalf("Write(%s): %q %d", show(s), text, err)
		}
		want, err := plainMake(s)
		if m, e := spec.Make(roomySpec(s)); e != err || !sameMade(m, want) {
			t.Fatalf("Make(%s): %s %d", show(s), show(m), e)
		}
	}
	for _, m := range someMade(rng, 60) {
		right(t, roomyMade(m), api.OK)
	}
	full := many(40, 40)
	checks(t, api.Spec{Words: full.Words[:30], Rules: full.Rules[:30]}, api.OK)
	skips := said("a: a", "~: a", "s = a")
	skips.Words = slices.Repeat(skips.Words[1:], 30)[:20]
	skips.Rules[0].Body = slices.Repeat([]string{"s"}, 20)[:0]
	makesPlainly(t, skips)
	skips.Words = skips.Words[:21]
	makeFails(t, skips, api.ErrArg)
	m := madeOf(t, sums())
	m.Of = make([]int, 30)[:20]
	right(t, m, api.OK)
	m.Of = m.Of[:0]
	right(t, m, api.ErrArg)
}

// What is answered stays when what was handed in is changed, and a call does not hang on those ahead of it.
func TestP2NothingIsKept(t *testing.T) {
	s, double := sums(), rows()
	want, _ := plainMake(sums())
	other, _ := plainMake(rows())
	m, n := madeOf(t, s), madeOf(t, double)
	s.Words[0].Name, s.Rules[0].Body[0], s.Words[1].Rex.Class[0] = "x", "x", 0
	double.Rules[0].Body[0] = "x"
	if !sameMade(m, want) || !sameMade(n, other) {
		t.Errorf("they are changed: %s, %s", show(m), show(n))
	}
	refused(t, s, api.ErrArg)
	refused(t, double, api.ErrName)
	m.Of[0], m.Rows[0][0], m.Grammar.Prods[0].Head, m.Lexer.Tags[0], m.Lexer.Next[0][0] = 7, 7, 7, 7, 7
	n.Table.Acts[0][0], n.Table.Goto[0][0] = api.Act{Kind: 7}, 7
	makes(t, sums(), want)
	makes(t, rows(), other)
	right(t, m, api.ErrArg)
	right(t, want, api.OK)
	text := plainWrite(sums())
	first, _, _ := spec.Read(text)
	first.Words[0], first.Rules[0].Body[0], first.Rules[1].Head = api.Word{}, "x", "x"
	_ = append(first.Words[:1], api.Word{Name: "y"})
	reads(t, text, sums())
	makeFails(t, said(append([]string{"a: a", "b: b"}, far(9)...)...), api.ErrStates)
	writes(t, rows(), plainWrite(rows()))
	makes(t, sums(), want)
}

// The answers don't hang on the order in which a map is gone through.
func TestP2TheSameAgain(t *testing.T) {
	rng := rand.New(rand.NewSource(16))
	for range 200 {
		s := wildOne(rng)
		m, err := spec.Make(s)
		for range 5 {
			if n, e := spec.Make(s); !sameMade(m, n) || e != err {
				t.Fatalf("Make(%s) is told in two ways", show(s))
			}
		}
	}
}

func TestP2CallsAtOneTimeDoNotMeet(t *testing.T) {
	s, double := sums(), rows()
	want, _ := plainMake(s)
	other, _ := plainMake(double)
	text := plainWrite(s)
	var wait sync.WaitGroup
	for i := range 8 {
		wait.Go(func() {
			for range 50 {
				if m, err := spec.Make(s); !sameMade(m, want) || err != api.OK {
					t.Errorf("made: %s %d", show(m), err)
				}
				if m, err := spec.Make(double); !sameMade(m, other) || err != api.OK {
					t.Errorf("made: %s %d", show(m), err)
				}
				if u, at, err := spec.Read(text); !sameSpec(u, s) || at != 0 || err != api.OK {
					t.Errorf("read: %s %d %d", show(u), at, err)
				}
				if _, at, err := spec.Read(fmt.Sprintf("%s\n", strings.Repeat("rule s =\n", i))); at != i+1 || err != api.ErrSyntax {
					t.Errorf("read: %d %d", at, err)
				}
				if u, err := spec.Write(s); u != text || err != api.OK {
					t.Errorf("written: %q %d", u, err)
				}
				if spec.Check(double) != api.OK || spec.Right(want) != api.OK || spec.Right(other) != api.OK {
					t.Error("they are right")
				}
			}
		})
	}
	wait.Wait()
}
