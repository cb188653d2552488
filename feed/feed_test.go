package feed_test

import (
	"math/rand"
	"slices"
	"strings"
	"testing"

	"pushmill/api"
	"pushmill/feed"
	"pushmill/rex"
)

func TestP26Examples(t *testing.T) {
	p := madeOf(t, rulesOf(t, "a", "abc", "b"))
	h := feeds(t, p, api.Held{}, "ab", told{api.Held{Buf: "ab"}, nil, api.OK})
	h = feeds(t, p, h, "a", told{api.Held{At: 2, Buf: "a"}, cut(0, []int{0, 2}, []int{1, 1}), api.OK})
	h = feeds(t, p, h, "bc", told{api.Held{At: 5}, cut(2, []int{1}, []int{3}), api.OK})
	h = feeds(t, p, h, "b", told{api.Held{At: 6}, cut(5, []int{2}, []int{1}), api.OK})
	feeds(t, p, h, "ac", told{api.Held{At: 7, Over: api.ErrLex}, cut(6, []int{0}, []int{1}), api.ErrLex})
	p = madeOf(t, rulesOf(t, "[0-9]+", "\\+", "[a-z][a-z0-9]*", "\\+="))
	h = feeds(t, p, api.Held{}, "x1+12", told{api.Held{At: 3, Buf: "12"}, cut(0, []int{2, 1}, []int{2, 1}), api.OK})
	h = feeds(t, p, h, "3", told{api.Held{At: 3, Buf: "123"}, nil, api.OK})
	h = feeds(t, p, h, "+", told{api.Held{At: 6, Buf: "+"}, cut(3, []int{0}, []int{3}), api.OK})
	feeds(t, p, h, "=", told{api.Held{At: 8}, cut(6, []int{3}, []int{2}), api.OK})
	feeds(t, p, h, "A", told{api.Held{At: 7, Over: api.ErrLex}, cut(6, []int{1}, []int{1}), api.ErrLex})
}

// A token is told with the byte that makes it certain, not with one ahead of it, nor with the next one.
func TestP26WhenItIsCertain(t *testing.T) {
	p := madeOf(t, rulesOf(t, "a+", "bb?", "cd"))
	for s, want := range map[string]told{
		"a":   {api.Held{Buf: "a"}, nil, api.OK},  // one more may come
		"aa":  {api.Held{Buf: "aa"}, nil, api.OK}, // always
		"aab": {api.Held{At: 2, Buf: "b"}, same(0, 0, 1, 2), api.OK},
		"b":   {api.Held{Buf: "b"}, nil, api.OK},
		"bb":  {api.Held{At: 2}, same(0, 1, 1, 2), api.OK}, // nothing leads on
		"bc":  {api.Held{At: 1, Buf: "c"}, same(0, 1, 1, 1), api.OK},
		"c":   {api.Held{Buf: "c"}, nil, api.OK},
		"cd":  {api.Held{At: 2}, same(0, 2, 1, 2), api.OK},
		"cc":  {api.Held{Over: api.ErrLex}, nil, api.ErrLex},
		"x":   {api.Held{Over: api.ErrLex}, nil, api.ErrLex},
	} {
		feeds(t, p, api.Held{}, s, want)
		for i := range len(s) {
			h := api.Held{Buf: s[:i]}
			if i > 0 {
				h = feeds(t, p, api.Held{}, s[:i], told{h, nil, api.OK})
			}
			feeds(t, p, h, s[i:], want)
		}
	}
}

// Where nothing leads on a token is certain, also where it is a shorter one, or none, as that state has no tag; a state
// that leads on is waited for, though no tag may come of it.
func TestP26StatesThatLeadNowhere(t *testing.T) {
	p := built([]int{-1, 4, -1, -1}, way{0, "a", 1}, way{1, "b", 2}, way{1, "c", 3}, way{3, "c", 3}, way{0, "x", 2})
	feeds(t, p, api.Held{}, "a", told{api.Held{Buf: "a"}, nil, api.OK})
	feeds(t, p, api.Held{}, "ab", told{api.Held{At: 1, Over: api.ErrLex}, same(0, 4, 1, 1), api.ErrLex})
	feeds(t, p, api.Held{}, "aba", told{api.Held{At: 1, Over: api.ErrLex}, same(0, 4, 1, 1), api.ErrLex})
	feeds(t, p, api.Held{}, "x", told{api.Held{Over: api.ErrLex}, nil, api.ErrLex})
	feeds(t, p, api.Held{}, "accc", told{api.Held{Buf: "accc"}, nil, api.OK})
	feeds(t, p, api.Held{}, "acca", told{api.Held{At: 1, Over: api.ErrLex}, same(0, 4, 1, 1), api.ErrLex})
	p = built([]int{-1, 4, -1, 5}, way{0, "a", 1}, way{1, "b", 2}, way{0, "b", 3})
	feeds(t, p, api.Held{}, "ab", told{api.Held{At: 2}, cut(0, []int{4, 5}, []int{1, 1}), api.OK})
}

// The numbers of a state are all that it has, also those of a column that no byte has.
func TestP26Columns(t *testing.T) {
	for column := range 5 {
		p := api.Packed{Next: [][]int{{1, -1, 1, -1, 0}, {-1, -1, -1, -1, -1}}, Tags: []int{-1, 2}}
		p.Of['a'], p.Of['b'] = 2, 3
		feeds(t, p, api.Held{}, "a", told{api.Held{At: 1}, same(0, 2, 1, 1), api.OK})
		feeds(t, p, api.Held{}, "ax", told{api.Held{At: 2}, same(0, 2, 2, 1), api.OK})
		feeds(t, p, api.Held{}, "b", told{api.Held{Over: api.ErrLex}, nil, api.ErrLex})
		p.Next[1][column] = 0
		feeds(t, p, api.Held{}, "a", told{api.Held{Buf: "a"}, nil, api.OK})
		feeds(t, p, api.Held{}, "aa", map[bool]told{
			true:  {api.Held{Buf: "aa"}, nil, api.OK},
			false: {api.Held{At: 1, Buf: "a"}, same(0, 2, 1, 1), api.OK},
		}[column == 2])
	}
	for n := 1; n <= 256; n++ { // all of so many columns are looked at
		p := api.Packed{Next: [][]int{slices.Repeat([]int{1}, n), slices.Repeat([]int{-1}, n)}, Tags: []int{-1, 0}}
		feeds(t, p, api.Held{}, "xy", told{api.Held{At: 2}, same(0, 0, 2, 1), api.OK})
		for _, column := range []int{0, n / 2, n - 1} {
			p.Next[1] = slices.Repeat([]int{-1}, n)
			p.Next[1][column] = 1
			if column > 0 {
				feeds(t, p, api.Held{}, "xy", told{api.Held{At: 1, Buf: "y"}, same(0, 0, 1, 1), api.OK})
			} else {
				feeds(t, p, api.Held{}, "xy", told{api.Held{Buf: "xy"}, nil, api.OK})
			}
		}
	}
}

// With no byte at hand nothing is certain, also where the beginning leads nowhere or has a tag.
func TestP26WithoutAByte(t *testing.T) {
	for tag := -1; tag < 20; tag++ {
		for _, p := range []api.Packed{built([]int{tag}), ring(tag), built([]int{tag, 1}, way{0, "a", 1})} {
			feeds(t, p, api.Held{At: 3}, "", told{api.Held{At: 3}, nil, api.OK})
		}
		feeds(t, built([]int{tag}), api.Held{At: 3}, "x", told{api.Held{At: 3, Over: api.ErrLex}, nil, api.ErrLex})
		feeds(t, built([]int{tag, 1}, way{0, "a", 1}), api.Held{At: 3}, "a", told{api.Held{At: 4}, same(3, 1, 1, 1), api.OK})
		feeds(t, built([]int{tag, 1}, way{0, "a", 1}), api.Held{At: 3}, "ab", told{api.Held{At: 4, Over: api.ErrLex}, same(3, 1, 1, 1), api.ErrLex})
	}
	p := built([]int{4, -1}, way{0, "a", 1}, way{1, "b", 0}) // the tag of the beginning counts where something leads back
	feeds(t, p, api.Held{}, "abab", told{api.Held{Buf: "abab"}, nil, api.OK})
	feeds(t, p, api.Held{}, "abaa", told{api.Held{At: 2, Over: api.ErrLex}, same(0, 4, 1, 2), api.ErrLex})
}

// The longest one, also where what lies between is none; what was read beyond it is read again.
func TestP26TheLongest(t *testing.T) {
	p := madeOf(t, rulesOf(t, "a", "aabb", "aabbabab", "b"))
	feeds(t, p, api.Held{}, "aabbaba", told{api.Held{Buf: "aabbaba"}, nil, api.OK})
	feeds(t, p, api.Held{}, "aabbabab", told{api.Held{At: 8}, same(0, 2, 1, 8), api.OK})
	feeds(t, p, api.Held{}, "aabbabaa", told{api.Held{At: 6, Buf: "aa"}, cut(0, []int{1, 0, 3}, []int{4, 1, 1}), api.OK})
	feeds(t, p, api.Held{}, "aaba", told{api.Held{At: 3, Buf: "a"}, cut(0, []int{0, 0, 3}, []int{1, 1, 1}), api.OK})
	feeds(t, p, api.Held{}, "aabbabax", told{api.Held{At: 7, Over: api.ErrLex}, cut(0, []int{1, 0, 3, 0}, []int{4, 1, 1, 1}), api.ErrLex})
	p = madeOf(t, rulesOf(t, "if", "[a-z]+", "[a-z0-9]+", "i")) // of the rules that match the longest one it is the least
	feeds(t, p, api.Held{}, "if ", told{api.Held{At: 2, Over: api.ErrLex}, same(0, 0, 1, 2), api.ErrLex})
	feeds(t, p, api.Held{}, "ifs ", told{api.Held{At: 3, Over: api.ErrLex}, same(0, 1, 1, 3), api.ErrLex})
	feeds(t, p, api.Held{}, "if2 ", told{api.Held{At: 3, Over: api.ErrLex}, same(0, 2, 1, 3), api.ErrLex})
	feeds(t, p, api.Held{}, "i ", told{api.Held{At: 1, Over: api.ErrLex}, same(0, 1, 1, 1), api.ErrLex})
}

// One byte may make all tokens certain that were at hand.
func TestP26ManyAtOneByte(t *testing.T) {
	p := madeOf(t, rulesOf(t, "a", "a*b"))
	for n := range 65 {
		s := strings.Repeat("a", n)
		h := feeds(t, p, api.Held{At: 2}, s, told{api.Held{At: 2, Buf: s}, nil, api.OK})
		feeds(t, p, h, "b", told{api.Held{At: 3 + n}, same(2, 1, 1, n+1), api.OK})
		feeds(t, p, h, "!", told{api.Held{At: 2 + n, Over: api.ErrLex}, same(2, 0, n, 1), api.ErrLex})
		feeds(t, p, h, "!aab", told{api.Held{At: 2 + n, Over: api.ErrLex}, same(2, 0, n, 1), api.ErrLex})
	}
}

// chain is an automaton of one token with n bytes; marks has the lengths of shorter ones of rule 1.
func chain(n int, marks ...int) api.Packed {
	tags, ways := slices.Repeat([]int{-1}, n+1), []way(nil)
	for state := range n {
		ways = append(ways, way{state, "x", state + 1})
	}
	for _, mark := range marks {
		tags[mark] = 1
	}
	tags[n] = 0
	return built(tags, ways...)
}

// 64 bytes may be under way; a 65th one must make something certain.
func TestP26HowMuchIsHeld(t *testing.T) {
	for n := 1; n <= 199; n++ {
		s := strings.Repeat("x", n)
		if n <= 65 {
			feeds(t, chain(n), api.Held{At: 3}, s, told{api.Held{At: 3 + n}, same(3, 0, 1, n), api.OK})
			continue
		}
		feeds(t, chain(n), api.Held{At: 3}, s[:64], told{api.Held{At: 3, Buf: s[:64]}, nil, api.OK})
		feeds(t, chain(n), api.Held{At: 3}, s[:65], told{api.Held{At: 3, Over: api.ErrHold}, nil, api.ErrHold})
		feeds(t, chain(n), api.Held{At: 3}, s, told{api.Held{At: 3, Over: api.ErrHold}, nil, api.ErrHold})
		feeds(t, chain(n, 1, 63, 64, 65), api.Held{At: 3}, s, told{api.Held{At: 3, Over: api.ErrHold}, nil, api.ErrHold})
	}
	p := madeOf(t, rulesOf(t, "a+", "b"))
	for n := 1; n < 65; n++ {
		s := strings.Repeat("a", n)
		h := feeds(t, p, api.Held{At: 3}, s, told{api.Held{At: 3, Buf: s}, nil, api.OK})
		feeds(t, p, h, "b", told{api.Held{At: 4 + n}, cut(3, []int{0, 1}, []int{n, 1}), api.OK})
		feeds(t, p, h, strings.Repeat("a", 64-n), told{api.Held{At: 3, Buf: strings.Repeat("a", 64)}, nil, api.OK})
		feeds(t, p, h, strings.Repeat("a", 65-n), told{api.Held{At: 3, Over: api.ErrHold}, nil, api.ErrHold})
		feeds(t, p, h, strings.Repeat("a", 65-n)+"b!", told{api.Held{At: 3, Over: api.ErrHold}, nil, api.ErrHold})
		feeds(t, p, h, "b"+strings.Repeat("a", 65), told{api.Held{At: 4 + n, Over: api.ErrHold}, cut(3, []int{0, 1}, []int{n, 1}), api.ErrHold})
	}
}

// What goes from Buf makes room: what is held counts from the token under way on.
func TestP26RoomBehindATokenThatIsTold(t *testing.T) {
	p := built([]int{-1, 0, -1, 2}, way{0, "a", 1}, way{1, "b", 2}, way{2, "b", 2}, way{2, "c", 1}, way{0, "b", 3}, way{3, "b", 3})
	bs := strings.Repeat("b", 63)
	h := feeds(t, p, api.Held{}, "a"+bs, told{api.Held{Buf: "a" + bs}, nil, api.OK})
	feeds(t, p, h, "b", told{api.Held{Over: api.ErrHold}, nil, api.ErrHold})
	feeds(t, p, h, "a", told{api.Held{At: 64, Buf: "a"}, cut(0, []int{0, 2}, []int{1, 63}), api.OK})
	p.Next[3]['a'] = 3 // the 65th byte makes `a` certain, and all others go on, as 64
	h = feeds(t, p, h, "a", told{api.Held{At: 1, Buf: bs + "a"}, same(0, 0, 1, 1), api.OK})
	feeds(t, p, h, "b", told{api.Held{At: 1, Over: api.ErrHold}, nil, api.ErrHold})
	feeds(t, p, h, "c", told{api.Held{At: 65, Over: api.ErrLex}, same(1, 2, 1, 64), api.ErrLex})
}

// When all is over the rest of the piece is not looked at, and the place is where the token would begin.
func TestP26WhenAllIsOver(t *testing.T) {
	p := madeOf(t, rulesOf(t, "xyz", "\\s", "q+"))
	for _, rest := range []string{"", "xyz", " ", "!", strings.Repeat("q", 200), "\x00"} {
		feeds(t, p, api.Held{At: 6}, "xyz x!"+rest, told{api.Held{At: 10, Over: api.ErrLex}, cut(6, []int{0, 1}, []int{3, 1}), api.ErrLex})
		feeds(t, p, api.Held{At: 6, Buf: "xy"}, "x"+rest, told{api.Held{At: 6, Over: api.ErrLex}, nil, api.ErrLex})
		feeds(t, p, api.Held{At: 6}, " !"+rest, told{api.Held{At: 7, Over: api.ErrLex}, same(6, 1, 1, 1), api.ErrLex})
		feeds(t, p, api.Held{At: 6}, " "+strings.Repeat("q", 65)+rest, told{api.Held{At: 7, Over: api.ErrHold}, same(6, 1, 1, 1), api.ErrHold})
	}
	for at := range 2000 {
		s := strings.Repeat(" ", at) + "?" + strings.Repeat(" ", 1999-at)
		feeds(t, p, api.Held{}, s, told{api.Held{At: at, Over: api.ErrLex}, same(0, 1, at, 1), api.ErrLex})
	}
}

// A Buf that no Feed has left, in which something is certain already, is looked at behind the next byte.
func TestP26OddHelds(t *testing.T) {
	p := madeOf(t, rulesOf(t, "a", "bc*"))
	feeds(t, p, api.Held{Buf: "aabcc"}, "", told{api.Held{Buf: "aabcc"}, nil, api.OK})
	feeds(t, p, api.Held{Buf: "aabcc"}, "c", told{api.Held{At: 2, Buf: "bccc"}, same(0, 0, 2, 1), api.OK})
	feeds(t, p, api.Held{Buf: "a?"}, "", told{api.Held{Buf: "a?"}, nil, api.OK})
	feeds(t, p, api.Held{Buf: "a?"}, "a", told{api.Held{At: 1, Over: api.ErrLex}, same(0, 0, 1, 1), api.ErrLex})
	long := strings.Repeat("a", 64)
	feeds(t, p, api.Held{Buf: long}, "b", told{api.Held{At: 64, Buf: "b"}, same(0, 0, 64, 1), api.OK})
}

func TestP26Bytes(t *testing.T) {
	for b := range 256 {
		one := every()[b : b+1]
		p := built([]int{-1, 3}, way{0, one, 1}, way{1, one, 1})
		for other := range 256 {
			s := every()[other : other+1]
			if other == b {
				feeds(t, p, api.Held{Buf: one}, s, told{api.Held{Buf: one + s}, nil, api.OK})
			} else {
				feeds(t, p, api.Held{Buf: one}, s, told{api.Held{At: 1, Over: api.ErrLex}, same(0, 3, 1, 1), api.ErrLex})
			}
		}
	}
	p := built([]int{-1, -1, 5}, way{0, "\xc3", 1}, way{1, "\xa9", 2}) // bytes, not letters
	h := feeds(t, p, api.Held{}, "é\xc3", told{api.Held{At: 2, Buf: "\xc3"}, same(0, 5, 1, 2), api.OK})
	feeds(t, p, h, "\xa9", told{api.Held{At: 4}, same(2, 5, 1, 2), api.OK})
}

// feedsPlainly: behind each piece of a text, is that told which should be?
func feedsPlainly(t *testing.T, p api.Packed, run runner, h api.Held, pieces ...string) told {
	t.Helper()
	at, text, before := h.At, h.Buf, 0
	var want told
	for _, piece := range pieces {
		text += piece
		want.h, want.l, want.err = plainFeed(p, run, at, text)
		h = feeds(t, p, h, piece, told{want.h, want.l[before:], want.err})
		before = len(want.l)
		if want.err != api.OK || t.Failed() {
			break
		}
	}
	return want
}

// All texts, cut in all ways, of all automata of few states.
func TestP26AllOfFewStates(t *testing.T) {
	for n, longest := range map[int]int{1: 5, 2: 4} {
		texts := textsUpTo(longest, "ab")
		ofFewStates(n, 1, func(p api.Packed) {
			run := byUnpack(t, p)
			if n > 1 {
				run = bySteps(p)
			}
			for _, s := range texts {
				for cuts := range 1 << max(len(s)-1, 0) {
					feedsPlainly(t, p, run, api.Held{}, pieces(s, cuts)...)
				}
			}
		})
	}
}

// All texts, as two pieces, of all automata of three states.
func TestP26AllOfThreeStates(t *testing.T) {
	texts := textsUpTo(5, "ab")
	texts = texts[len(texts)-32:] // shorter ones are beginnings of these
	ofFewStates(3, 0, func(p api.Packed) {
		run := bySteps(p)
		for i, s := range texts {
			feedsPlainly(t, p, run, api.Held{}, s[:i%5], s[i%5:])
		}
	})
}

func TestP26Sampled(t *testing.T) {
	rng := rand.New(rand.NewSource(1))
	counts, many, wide := map[api.Errno]int{}, 0, 0
	for range 3000 {
		p := wildPacked(rng, 1+rng.Intn(200), 1+rng.Intn(40), 2+rng.Intn(60), 1+rng.Intn(4))
		for range rng.Intn(10) { // from where nothing leads on
			p.Next[rng.Intn(len(p.Next))] = slices.Repeat([]int{-1}, len(p.Next[0]))
		}
		h := api.Held{At: rng.Intn(1 << rng.Intn(41)), Buf: wildText(rng, rng.Intn(65)*rng.Intn(2), every())}
		var l []string
		for range 1 + rng.Intn(4) {
			l = append(l, wildText(rng, 1+rng.Intn(60), every()))
		}
		got := feedsPlainly(t, p, bySteps(p), h, l...)
		counts[got.err]++
		if len(got.l) > 1 {
			many++
		}
		if len(got.h.Buf) > 9 {
			wide++
		}
	}
	if counts[api.OK] < 300 || counts[api.ErrLex] < 300 || counts[api.ErrHold] < 100 || many < 500 || wide < 100 {
		t.Errorf("told: %v; %d have more than one token, and %d more than nine bytes at hand", counts, many, wide)
	}
}

// Of some rules a token is certain as soon as no text that goes on from what is at hand is one that a rule matches.
func TestP26AsTheRulesSay(t *testing.T) {
	counts := map[bool]int{}
	for _, l := range [][]string{
		{"a", "ab", "abc", "b"},
		{"(a|b)*c", "a", "b+"},
		{"a*", "b*c", "[^a]"},
		{"ab|abab", "a", "[bc]+a"},
		{"(ab)*", "(ba)*", "c.c"},
		{"aa", "aaa", "ba|c"},
		{"a(b|c)?", "b(c|a)?", "c+b"},
		{"c", "c"},
	} {
		rules := rulesOf(t, l...)
		p := madeOf(t, rules)
		more := textsUpTo(3, "abc")[1:] // none of these rules needs four bytes more where it has come to
		matched := map[string]int{}
		for _, s := range textsUpTo(8, "abc") {
			if slices.ContainsFunc(rules, func(r api.Rex) bool { is, _ := rex.Matches(r, s); return is }) {
				matched[s] = 1
			}
		}
		for _, s := range textsUpTo(5, "abc")[1:] {
			if goesOn(matched, s[:len(s)-1], more) || len(s) == 1 {
				goes := goesOn(matched, s, more)
				h, told, err := feed.Feed(p, api.Held{Buf: s[:len(s)-1]}, s[len(s)-1:])
				if held := err == api.OK && len(told) == 0 && h == (api.Held{Buf: s}); held != goes {
					t.Errorf("%q: behind %q: %s, %s, %d", l, s, show(h), show(told), err)
				}
				counts[goes]++
			}
		}
	}
	if counts[true] < 100 || counts[false] < 100 {
		t.Errorf("told: %v", counts)
	}
}

// goesOn: is s with one of more behind it matched?
func goesOn(matched map[string]int, s string, more []string) bool {
	return slices.ContainsFunc(more, func(next string) bool { return matched[s+next] == 1 })
}
