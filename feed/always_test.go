package feed_test

import (
	"math"
	"math/rand"
	"reflect"
	"slices"
	"strings"
	"sync"
	"testing"
	"unsafe"

	"pushmill/api"
	"pushmill/feed"
	"pushmill/small"
)

// anyPacked may be right or wrong.
func anyPacked(rng *rand.Rand) api.Packed {
	numbers := []int{math.MinInt, -2, -1, -1, 0, 0, 0, 0, 0, 1, 1, 2, 19, 20, 199, 200, math.MaxInt}
	p := wildPacked(rng, 1+rng.Intn(4), 1+rng.Intn(4), 1+rng.Intn(3), 1+rng.Intn(3))
	for state, next := range p.Next {
		if rng.Intn(8) == 0 {
			next[rng.Intn(len(next))] = numbers[rng.Intn(len(numbers))]
		}
		if rng.Intn(8) == 0 {
			p.Next[state] = next[rng.Intn(len(next)+1):]
		}
		if rng.Intn(8) == 0 {
			p.Tags[state] = numbers[rng.Intn(len(numbers))]
		}
	}
	if rng.Intn(8) == 0 {
		p.Of[rng.Intn(256)] = uint8(rng.Intn(256))
	}
	if rng.Intn(8) == 0 {
		p.Next = p.Next[rng.Intn(len(p.Next)+1):]
	}
	if rng.Intn(8) == 0 {
		p.Tags = p.Tags[rng.Intn(len(p.Tags)+1):]
	}
	return p
}

// anyHeld may be right or wrong.
func anyHeld(rng *rand.Rand) api.Held {
	places := []int{math.MinInt, -1, 0, 0, 1, 2, 77, 1<<40 - 1, 1 << 40, 1<<40 + 1, math.MaxInt}
	lengths := []int{0, 0, 0, 1, 2, 3, 63, 64, 65, 2001}
	overs := []api.Errno{api.OK, api.OK, api.OK, api.OK, api.OK, api.ErrLex, api.ErrOver, -1, math.MinInt, math.MaxInt}
	return api.Held{At: places[rng.Intn(len(places))], Buf: wildText(rng, lengths[rng.Intn(len(lengths))], every()), Over: overs[rng.Intn(len(overs))]}
}

func TestP1AnswersWhateverIsGiven(t *testing.T) {
	rng := rand.New(rand.NewSource(11))
	lengths := []int{0, 1, 2, 3, 9, 50, 1999, 2000, 2001, 5000}
	counts := map[api.Errno]int{}
	for range 30000 {
		p, h, s := anyPacked(rng), anyHeld(rng), wildText(rng, lengths[rng.Intn(len(lengths))], every())
		want := firstOf(small.Check(p), h)
		if want != api.OK {
			refused(t, p, h, s, want)
			counts[want]++
			continue
		}
		if _, _, err := feed.End(p, h); err != api.OK && err != api.ErrLex {
			t.Fatalf("End(%s, %s): %d", brief(p), show(h), err)
		}
		if len(s) > 2000 {
			feeds(t, p, h, s, told{h, nil, api.ErrLarge})
			counts[api.ErrLarge]++
			continue
		}
		_, _, err := feed.Feed(p, h, s)
		if err != api.OK && err != api.ErrLex && err != api.ErrHold {
			t.Fatalf("Feed(%s, %s, %.40q of %d): %d", brief(p), show(h), s, len(s), err)
		}
		counts[err]++
	}
	for _, err := range []api.Errno{api.OK, api.ErrArg, api.ErrOver, api.ErrLarge, api.ErrLex, api.ErrHold} {
		if counts[err] < 100 {
			t.Errorf("told: %v", counts)
		}
	}
}

// room is the memory of a list or a text, from its first byte to behind its spare room.
type room struct{ from, to uintptr }

// roomOf has the memory of a list, if it has any.
func roomOf[T any](list []T) []room {
	if cap(list) == 0 {
		return nil
	}
	from := uintptr(unsafe.Pointer(unsafe.SliceData(list)))
	var one T
	return []room{{from, from + uintptr(cap(list))*unsafe.Sizeof(one)}}
}

// textRoom has the memory of a text, if it has any.
func textRoom(s string) []room {
	if s == "" {
		return nil
	}
	from := uintptr(unsafe.Pointer(unsafe.StringData(s)))
	return []room{{from, from + uintptr(len(s))}}
}

// packedRooms has the memory of all lists of p.
func packedRooms(p api.Packed) []room {
	l := slices.Concat(roomOf(p.Next), roomOf(p.Tags))
	for _, next := range p.Next {
		l = append(l, roomOf(next)...)
	}
	return l
}

// apart: do these share no memory?
func apart(l []room) bool {
	slices.SortFunc(l, func(a, b room) int { return int(a.from) - int(b.from) })
	for i := 1; i < len(l); i++ {
		if l[i-1].to > l[i].from {
			return false
		}
	}
	return true
}

func TestP2AnswersAreNewMemory(t *testing.T) {
	rng := rand.New(rand.NewSource(12))
	tokens, held, single := 0, 0, 0
	for i := range 3000 {
		p := wildPacked(rng, 1+rng.Intn(9), 1+rng.Intn(5), 2+rng.Intn(9), 2)
		h, s := api.Held{Buf: wildText(rng, rng.Intn(5), every())}, wildText(rng, rng.Intn(20)*rng.Intn(2), every())
		if i%20 == 0 { // refused, and the Held is told as it was
			h.Over = api.ErrLex
		}
		first, l, _ := feed.Feed(p, h, s)
		second, k, _ := feed.Feed(p, h, s)
		third, m, _ := feed.End(p, h)
		if !apart(slices.Concat(packedRooms(p), textRoom(h.Buf), textRoom(s), textRoom(first.Buf), textRoom(second.Buf), textRoom(third.Buf), roomOf(l), roomOf(k), roomOf(m))) {
			t.Fatalf("Feed(%s, %s, %q), End: lists or texts share their memory", brief(p), show(h), s)
		}
		tokens += len(l) + len(m)
		if first.Buf != "" {
			held++
		}
		if len(first.Buf) == 1 {
			single++
		}
	}
	if tokens < 1000 || held < 500 || single < 100 {
		t.Errorf("only %d tokens and %d Bufs, %d of one byte, are told", tokens, held, single)
	}
}

// roomy is a list with spare room behind it, in which spare stands.
func roomy[T any](list []T, spare T) []T {
	l := append(make([]T, 0, len(list)+2), list...)
	_ = append(l, spare, spare)
	return l
}

// roomyPacked is p with spare room behind each list.
func roomyPacked(p api.Packed) api.Packed {
	next := make([][]int, len(p.Next))
	for i, l := range p.Next {
		next[i] = roomy(l, 77)
	}
	return api.Packed{Of: p.Of, Next: roomy(next, []int{7, 7}), Tags: roomy(p.Tags, 77)}
}

// wholePacked is p with its spare room as a part of each list.
func wholePacked(p api.Packed) api.Packed {
	next := slices.Clone(p.Next[:cap(p.Next)])
	for i, l := range next {
		next[i] = l[:cap(l)]
	}
	return api.Packed{Of: p.Of, Next: next, Tags: p.Tags[:cap(p.Tags)]}
}

func TestP2WhatIsHandedInStays(t *testing.T) {
	rng := rand.New(rand.NewSource(13))
	for range 1000 {
		p, text := anyPacked(rng), []byte(wildText(rng, 20+rng.Intn(60), every()))
		all := unsafe.String(&text[0], len(text)) // its memory is looked at, as a change would be seen there
		before := strings.Clone(all)
		given := roomyPacked(p)
		i := 1 + rng.Intn(10)
		feed.Feed(given, api.Held{Buf: all[1:i]}, all[i:len(all)-1])
		feed.End(given, api.Held{Buf: all[1:i]})
		if !reflect.DeepEqual(wholePacked(given), wholePacked(roomyPacked(p))) || string(text) != before {
			t.Fatalf("%s or %q is changed", show(p), before)
		}
	}
}

// What is answered stays when what was handed in is changed, and a call does not hang on those ahead of it.
func TestP2NothingIsKept(t *testing.T) {
	p := madeOf(t, rulesOf(t, "ab*", "c"))
	text := []byte("abbcab")
	s := unsafe.String(&text[0], len(text))
	h, l, _ := feed.Feed(p, api.Held{}, s)
	idle, _, _ := feed.Feed(p, api.Held{Buf: s[4:]}, "")
	over, _, _ := feed.Feed(p, api.Held{Buf: s[4:], Over: api.ErrLex}, "")
	ended, _, _ := feed.End(p, api.Held{Buf: s[4:], Over: api.ErrLex})
	copy(text, "??????")
	want := cut(0, []int{0, 1}, []int{3, 1})
	if h != (api.Held{At: 4, Buf: "ab"}) || !slices.Equal(l, want) || idle.Buf != "ab" || over.Buf != "ab" || ended.Buf != "ab" {
		t.Errorf("it is changed: %v %v %v %v %v", h, l, idle, over, ended)
	}
	q := roomyPacked(p)
	for state := range q.Tags {
		q.Tags[state] = 9
	}
	feeds(t, q, api.Held{}, "abbcab", told{h, cut(0, []int{9, 9}, []int{3, 1}), api.OK})
	l[0].Rule, l[1].To = 7, 77
	feed.Feed(p, api.Held{}, "abbx")
	feed.Feed(api.Packed{}, api.Held{}, "abbc")
	feed.End(p, api.Held{Buf: "ab"})
	feeds(t, p, api.Held{}, "abbcab", told{h, want, api.OK})
	feeds(t, p, api.Held{}, "b", told{api.Held{Over: api.ErrLex}, nil, api.ErrLex})
	ends(t, p, h, told{api.Held{At: 6, Over: api.ErrOver}, cut(4, []int{0}, []int{2}), api.OK})
}

func TestP2CallsAtOneTimeDoNotMeet(t *testing.T) {
	p, q := madeOf(t, rulesOf(t, "a", "a*b", "\\s")), ring(3)
	as := strings.Repeat("a", 50)
	var wait sync.WaitGroup
	for range 8 {
		wait.Go(func() {
			for range 200 {
				h := feeds(t, p, api.Held{At: 2}, as, told{api.Held{At: 2, Buf: as}, nil, api.OK})
				feeds(t, p, h, " b", told{api.Held{At: 54}, cut(2, append(make([]int, 50), 2, 1), slices.Repeat([]int{1}, 52)), api.OK})
				feeds(t, p, h, "b", told{api.Held{At: 53}, same(2, 1, 1, 51), api.OK})
				feeds(t, q, h, as, told{api.Held{At: 2, Over: api.ErrHold}, nil, api.ErrHold})
				ends(t, p, h, told{api.Held{At: 52, Over: api.ErrOver}, same(2, 0, 50, 1), api.OK})
				ends(t, q, h, told{api.Held{At: 52, Over: api.ErrOver}, same(2, 3, 1, 50), api.OK})
				refused(t, api.Packed{}, h, as, api.ErrArg)
			}
		})
	}
	wait.Wait()
}
