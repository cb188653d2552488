package feed_test

import (
	"math"
	"strings"
	"testing"

	"pushmill/api"
)

// letters is an automaton in which each byte is a token of rule 3, certain at once.
func letters() api.Packed { return built([]int{-1, 3}, way{0, every(), 1}) }

func TestP25Places(t *testing.T) {
	for _, p := range []api.Packed{letters(), ring(0), built([]int{-1})} {
		for _, at := range []int{math.MinInt, -1 << 40, math.MinInt32, -2001, -65, -2, -1, 1<<40 + 1, 1<<40 + 2, 1<<40 + 64, 1 << 41, 1<<40 + 1<<32, math.MaxInt} {
			for _, buf := range []string{"", "x", strings.Repeat("x", 64)} {
				for _, s := range []string{"", "x", strings.Repeat("x", 2000)} {
					refused(t, p, api.Held{At: at, Buf: buf}, s, api.ErrArg)
				}
			}
		}
	}
	for _, at := range []int{0, 1, 2, 63, 64, 65, 2000, 2001, math.MaxInt32, 1 << 32, 1<<40 - 2, 1<<40 - 1, 1 << 40} {
		feeds(t, letters(), api.Held{At: at}, "xyz", told{api.Held{At: at + 3}, same(at, 3, 3, 1), api.OK})
		feeds(t, letters(), api.Held{At: at}, "", told{api.Held{At: at}, nil, api.OK})
		ends(t, letters(), api.Held{At: at, Buf: "xyz"}, told{api.Held{At: at + 3, Over: api.ErrOver}, same(at, 3, 3, 1), api.OK})
		ends(t, letters(), api.Held{At: at}, told{api.Held{At: at, Over: api.ErrOver}, nil, api.OK})
	}
}

// What has come, by the last place that may be handed in, is told; what has gone beyond it is handed in no more.
func TestP25BehindTheLastPlace(t *testing.T) {
	h := feeds(t, letters(), api.Held{At: 1<<40 - 1}, "x", told{api.Held{At: 1 << 40}, same(1<<40-1, 3, 1, 1), api.OK})
	h = feeds(t, letters(), h, "x", told{api.Held{At: 1<<40 + 1}, same(1<<40, 3, 1, 1), api.OK})
	refused(t, letters(), h, "x", api.ErrArg)
}

func TestP25BytesAtHand(t *testing.T) {
	for n := range 65 {
		buf := strings.Repeat("x", n)
		feeds(t, ring(0), api.Held{At: 5, Buf: buf}, "", told{api.Held{At: 5, Buf: buf}, nil, api.OK})
		feeds(t, letters(), api.Held{At: 5, Buf: buf}, "x", told{api.Held{At: 6 + n}, same(5, 3, n+1, 1), api.OK})
		ends(t, letters(), api.Held{At: 5, Buf: buf}, told{api.Held{At: 5 + n, Over: api.ErrOver}, same(5, 3, n, 1), api.OK})
	}
	for _, n := range []int{65, 66, 127, 128, 129, 256, 2000, 2001, 1 << 16, 1 << 20} {
		for _, p := range []api.Packed{letters(), ring(0), built([]int{-1})} {
			for _, s := range []string{"", "x", strings.Repeat("x", 2000)} {
				refused(t, p, api.Held{Buf: strings.Repeat("x", n)}, s, api.ErrArg)
				refused(t, p, api.Held{At: 1 << 40, Buf: strings.Repeat("x", n)}, s, api.ErrArg)
			}
		}
	}
}

func TestP25ItIsOver(t *testing.T) {
	overs := []api.Errno{math.MinInt, -16, -2, -1, 19, 20, 256, 1 << 32, math.MaxInt}
	for over := api.ErrArg; over <= api.ErrFull; over++ {
		overs = append(overs, over)
	}
	for _, over := range overs {
		for _, h := range []api.Held{{}, {At: 7}, {At: 7, Buf: "x"}, {At: 1 << 40, Buf: strings.Repeat("x", 64)}} {
			h.Over = over
			for _, s := range []string{"", "x", strings.Repeat("x", 2000)} {
				refused(t, letters(), h, s, api.ErrOver)
				refused(t, built([]int{-1}), h, s, api.ErrOver)
			}
		}
	}
}

// Behind each end, good or bad, there is nothing more.
func TestP25OnceOverForGood(t *testing.T) {
	p := built([]int{-1, 0, -1}, way{0, "a", 1}, way{1, "a", 1}, way{1, "b", 2}, way{2, "b", 2})
	for _, over := range []api.Errno{api.ErrOver, api.ErrLex, api.ErrHold} {
		var h api.Held
		switch over {
		case api.ErrOver:
			h = feeds(t, p, h, "aa", told{api.Held{Buf: "aa"}, nil, api.OK})
			h = ends(t, p, h, told{api.Held{At: 2, Over: over}, same(0, 0, 1, 2), api.OK})
		case api.ErrLex:
			h = feeds(t, p, h, "aac", told{api.Held{At: 2, Over: over}, same(0, 0, 1, 2), over})
		case api.ErrHold:
			h = feeds(t, p, h, strings.Repeat("a", 65), told{api.Held{Over: over}, nil, over})
		}
		for range 3 {
			refused(t, p, h, "a", api.ErrOver)
			refused(t, p, h, "", api.ErrOver)
		}
	}
}

func TestP25LongPieces(t *testing.T) {
	for _, n := range []int{1, 1998, 1999, 2000} {
		s := strings.Repeat("x", n)
		feeds(t, letters(), api.Held{At: 9}, s, told{api.Held{At: 9 + n}, same(9, 3, n, 1), api.OK})
		buf := strings.Repeat("x", 64) // it does not count as a part of s
		feeds(t, letters(), api.Held{At: 9, Buf: buf}, s, told{api.Held{At: 73 + n}, same(9, 3, 64+n, 1), api.OK})
	}
	for _, n := range []int{2001, 2002, 2064, 4000, 4096, 1 << 16, 1 << 20} {
		for _, p := range []api.Packed{letters(), ring(0), built([]int{-1})} {
			for _, h := range []api.Held{{}, {At: 7, Buf: "x"}, {At: 1 << 40, Buf: strings.Repeat("x", 64)}} {
				feeds(t, p, h, strings.Repeat("x", n), told{h, nil, api.ErrLarge})
			}
		}
	}
}

// Of several errors that of the automaton comes first, then that of the place or the bytes at hand, then that all is
// over, then that of the piece.
func TestP25WhichError(t *testing.T) {
	automata := append(wrongOnes(), wrongPacked{letters(), api.OK}, wrongPacked{built([]int{-1}), api.OK})
	counts := map[api.Errno]int{}
	for _, w := range automata {
		for _, at := range []int{-1, 0, 1 << 40, 1<<40 + 1} {
			for _, bytes := range []int{0, 64, 65} {
				for _, over := range []api.Errno{api.OK, api.ErrLex, api.ErrOver, -1} {
					h := api.Held{At: at, Buf: strings.Repeat("x", bytes), Over: over}
					ofEnd := firstOf(w.err, h)
					counts[ofEnd]++
					for _, long := range []int{0, 1, 2000, 2001} {
						err := ofEnd
						if err == api.OK && long > 2000 {
							err = api.ErrLarge
						}
						if err != api.OK {
							feeds(t, w.p, h, strings.Repeat("x", long), told{h, nil, err})
						}
					}
					if ofEnd != api.OK {
						ends(t, w.p, h, told{h, nil, ofEnd})
					}
				}
			}
		}
	}
	if counts[api.ErrArg] < 1000 || counts[api.ErrLarge] < 500 || counts[api.ErrOver] < 20 || counts[api.OK] < 5 {
		t.Errorf("told: %v", counts)
	}
}

// firstOf is the error of an automaton, or else that of a Held.
func firstOf(wrong api.Errno, h api.Held) api.Errno {
	switch {
	case wrong != api.OK:
		return wrong
	case h.At < 0, h.At > 1099511627776, len(h.Buf) > 64:
		return api.ErrArg
	case h.Over != api.OK:
		return api.ErrOver
	}
	return api.OK
}

// What is wrong with the automaton is told though no text leads there.
func TestP25WrongWhereNothingLeads(t *testing.T) {
	for _, fault := range []func(p *api.Packed){
		func(p *api.Packed) { p.Tags[2] = 20 },
		func(p *api.Packed) { p.Next[2]['z'] = 3 },
		func(p *api.Packed) { p.Next[1] = p.Next[1][:255] },
	} {
		p := built([]int{-1, 0, 0}, way{0, "a", 0})
		feeds(t, p, api.Held{At: 4}, "a", told{api.Held{At: 4, Buf: "a"}, nil, api.OK})
		fault(&p)
		for _, s := range []string{"", "a"} {
			refused(t, p, api.Held{At: 4}, s, api.ErrArg)
			refused(t, p, api.Held{At: 4, Buf: "a"}, s, api.ErrArg)
		}
	}
}
