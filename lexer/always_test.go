package lexer_test

import (
	"math"
	"math/rand"
	"reflect"
	"slices"
	"strings"
	"sync"
	"testing"
	"unsafe"

	"pushmill/api"
	"pushmill/lexer"
	"pushmill/small"
)

// anyPacked may be right or wrong.
func anyPacked(rng *rand.Rand) api.Packed {
	numbers := []int{math.MinInt, -2, -1, -1, 0, 0, 0, 0, 0, 1, 1, 2, 19, 20, 199, 200, math.MaxInt}
	p := wildPacked(rng, 1+rng.Intn(4), 1+rng.Intn(4), 1+rng.Intn(3), 1+rng.Intn(3))
	for state, next := range p.Next {
		if rng.Intn(8) == 0 {
			next[rng.Intn(len(next))] = numbers[rng.Intn(len(numbers))]
		}
		if rng.Intn(8) == 0 {
			p.Next[state] = next[rng.Intn(len(next)+1):]
		}
		if rng.Intn(8) == 0 {
			p.Tags[state] = numbers[rng.Intn(len(numbers))]
		}
	}
	if rng.Intn(8) == 0 {
		p.Of[rng.Intn(256)] = uint8(rng.Intn(256))
	}
	if rng.Intn(8) == 0 {
		p.Next = p.Next[rng.Intn(len(p.Next)+1):]
	}
	if rng.Intn(8) == 0 {
		p.Tags = p.Tags[rng.Intn(len(p.Tags)+1):]
	}
	return p
}

func TestP1AnswersWhateverIsGiven(t *testing.T) {
	rng := rand.New(rand.NewSource(11))
	lengths := []int{0, 1, 2, 3, 9, 50, 1999, 2000, 2001, 5000}
	places := []int{math.MinInt, -2001, -1, 0, 1, 2, 1999, 2000, 2001, 5000, math.MaxInt}
	counts := map[api.Errno]int{}
	for range 20000 {
		p, s := anyPacked(rng), wildText(rng, lengths[rng.Intn(len(lengths))], every())
		from := places[rng.Intn(len(places))]
		want := small.Check(p)
		if want == api.OK && len(s) > 2000 {
			want = api.ErrLarge
		}
		if l, at, err := lexer.Lex(p, s); want == api.OK && err != api.OK && err != api.ErrLex || want != api.OK && (err != want || l != nil || at != 0) {
			t.Fatalf("Lex(%s, %.40q of %d) = %s, %d, %d, not %d", brief(p), s, len(s), show(l), at, err, want)
		}
		if want == api.OK && (from < 0 || from > len(s)) {
			want = api.ErrArg
		}
		if token, is, err := lexer.One(p, s, from); err != want || !is && token != (api.Token{}) || is && err != api.OK {
			t.Fatalf("One(%s, %.40q of %d, %d) = %v, %t, %d, not %d", brief(p), s, len(s), from, token, is, err, want)
		}
		counts[want]++
	}
	if counts[api.OK] < 1000 || counts[api.ErrArg] < 1000 || counts[api.ErrLarge] < 1000 {
		t.Errorf("told: %v", counts)
	}
}

// room is the memory of a list, from its first byte to behind its spare room.
type room struct{ from, to uintptr }

// roomOf has the memory of a list, if it has any.
func roomOf[T any](list []T) []room {
	if cap(list) == 0 {
		return nil
	}
	from := uintptr(unsafe.Pointer(unsafe.SliceData(list)))
	var one T
	return []room{{from, from + uintptr(cap(list))*unsafe.Sizeof(one)}}
}

// packedRooms has the memory of all lists of p.
func packedRooms(p api.Packed) []room {
	l := slices.Concat(roomOf(p.Next), roomOf(p.Tags))
	for _, next := range p.Next {
		l = append(l, roomOf(next)...)
	}
	return l
}

// apart: do these share no memory?
func apart(l []room) bool {
	slices.SortFunc(l, func(a, b room) int { return int(a.from) - int(b.from) })
	for i := 1; i < len(l); i++ {
		if l[i-1].to > l[i].from {
			return false
		}
	}
	return true
}

func TestP2AnswersAreNewMemory(t *testing.T) {
	rng := rand.New(rand.NewSource(12))
	told := 0
	for range 1000 {
		p, s := wildPacked(rng, 1+rng.Intn(9), 1+rng.Intn(5), 4, 2), wildText(rng, rng.Intn(200), every())
		first, _, _ := lexer.Lex(p, s)
		second, _, _ := lexer.Lex(p, s)
		if !apart(slices.Concat(packedRooms(p), roomOf(first), roomOf(second))) {
			t.Fatalf("Lex(%s, %q): lists share their memory", brief(p), s)
		}
		told += len(first)
	}
	if told < 1000 {
		t.Errorf("only %d tokens are told", told)
	}
}

// roomy is a list with spare room behind it, in which spare stands.
func roomy[T any](list []T, spare T) []T {
	l := append(make([]T, 0, len(list)+2), list...)
	_ = append(l, spare, spare)
	return l
}

// roomyPacked is p with spare room behind each list.
func roomyPacked(p api.Packed) api.Packed {
	next := make([][]int, len(p.Next))
	for i, l := range p.Next {
		next[i] = roomy(l, 77)
	}
	return api.Packed{Of: p.Of, Next: roomy(next, []int{7, 7}), Tags: roomy(p.Tags, 77)}
}

// wholePacked is p with its spare room as a part of each list.
func wholePacked(p api.Packed) api.Packed {
	next := slices.Clone(p.Next[:cap(p.Next)])
	for i, l := range next {
		next[i] = l[:cap(l)]
	}
	return api.Packed{Of: p.Of, Next: next, Tags: p.Tags[:cap(p.Tags)]}
}

func TestP2WhatIsHandedInStays(t *testing.T) {
	rng := rand.New(rand.NewSource(13))
	for range 1000 {
		p, text := anyPacked(rng), []byte(wildText(rng, 1+rng.Intn(60), every()))
		s := unsafe.String(&text[0], len(text)) // its memory is looked at, as a change would be seen there
		before := strings.Clone(s)
		given := roomyPacked(p)
		lexer.Lex(given, s)
		lexer.One(given, s, rng.Intn(len(s)+1))
		if !reflect.DeepEqual(wholePacked(given), wholePacked(roomyPacked(p))) || string(text) != before {
			t.Fatalf("%s or %q is changed", show(p), before)
		}
	}
}

func TestP2NothingIsKept(t *testing.T) {
	p := madeOf(t, rulesOf(t, "ab*", "c"))
	want := cut([]int{0, 1}, []int{3, 1})
	l, _, _ := lexer.Lex(p, "abbc")
	q := roomyPacked(p)
	for state := range q.Tags {
		q.Tags[state] = 9
	}
	lex(t, q, "abbc", cut([]int{9, 9}, []int{3, 1}), 0, api.OK)
	if !slices.Equal(l, want) {
		t.Errorf("it is changed by another call: %v", l)
	}
	l[0].Rule, l[1].To = 7, 77
	lexer.Lex(ring(5), strings.Repeat("x", 2000))
	lexer.Lex(api.Packed{}, "abbc")
	lexer.One(p, "abbc", -1)
	lex(t, p, "abbc", want, 0, api.OK)
	lex(t, p, "abbd", want[:1], 3, api.ErrLex)
	one(t, p, "abbc", 3, want[1])
}

func TestP2CallsAtOneTimeDoNotMeet(t *testing.T) {
	p, q := madeOf(t, rulesOf(t, "a", "a*b", "\\s")), ring(3)
	s := strings.Repeat("a", 50) + " aab"
	want, _, _ := plainLex(bySteps(p), s, 0)
	var wait sync.WaitGroup
	for range 8 {
		wait.Go(func() {
			for range 200 {
				lex(t, p, s, want, 0, api.OK)
				lex(t, p, s+"!", want, len(s), api.ErrLex)
				lex(t, q, s, cut([]int{3}, []int{len(s)}), 0, api.OK)
				one(t, p, s, 51, want[len(want)-1])
				oneFails(t, p, s, -1, api.ErrArg)
				lexFails(t, api.Packed{}, s, api.ErrArg)
			}
		})
	}
	wait.Wait()
}
