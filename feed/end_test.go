package feed_test

import (
	"math/rand"
	"slices"
	"strings"
	"testing"

	"pushmill/api"
	"pushmill/feed"
	"pushmill/lexer"
)

func TestP27Examples(t *testing.T) {
	p := madeOf(t, rulesOf(t, "a", "abc", "b"))
	ends(t, p, api.Held{Buf: "ab"}, told{api.Held{At: 2, Over: api.ErrOver}, cut(0, []int{0, 2}, []int{1, 1}), api.OK})
	ends(t, p, api.Held{At: 2, Buf: "a"}, told{api.Held{At: 3, Over: api.ErrOver}, same(2, 0, 1, 1), api.OK})
	ends(t, p, api.Held{At: 5}, told{api.Held{At: 5, Over: api.ErrOver}, nil, api.OK})
	ends(t, p, api.Held{}, told{api.Held{Over: api.ErrOver}, nil, api.OK})
	p = madeOf(t, rulesOf(t, "[0-9]+", "[0-9]+\\.[0-9]+"))
	ends(t, p, api.Held{At: 8, Buf: "12"}, told{api.Held{At: 10, Over: api.ErrOver}, same(8, 0, 1, 2), api.OK})
	ends(t, p, api.Held{At: 8, Buf: "12.5"}, told{api.Held{At: 12, Over: api.ErrOver}, same(8, 1, 1, 4), api.OK})
	ends(t, p, api.Held{At: 8, Buf: "12."}, told{api.Held{At: 10, Over: api.ErrLex}, same(8, 0, 1, 2), api.ErrLex})
}

// Where no token begins all is over, at that place, and what lies behind it is not looked at.
func TestP27WhereNoneBegins(t *testing.T) {
	p := madeOf(t, rulesOf(t, "xyz", "x", "\\s", "zz"))
	for s, want := range map[string]told{
		"y":      {api.Held{At: 4, Over: api.ErrLex}, nil, api.ErrLex},
		"xy":     {api.Held{At: 5, Over: api.ErrLex}, same(4, 1, 1, 1), api.ErrLex},
		"z":      {api.Held{At: 4, Over: api.ErrLex}, nil, api.ErrLex},
		"zxyz":   {api.Held{At: 4, Over: api.ErrLex}, nil, api.ErrLex},
		"x y x":  {api.Held{At: 6, Over: api.ErrLex}, cut(4, []int{1, 2}, []int{1, 1}), api.ErrLex},
		"xyz zz": {api.Held{At: 10, Over: api.ErrOver}, cut(4, []int{0, 2, 3}, []int{3, 1, 2}), api.OK},
	} {
		ends(t, p, api.Held{At: 4, Buf: s}, want)
	}
	for tag := -1; tag < 20; tag++ { // a token has a byte at least
		ends(t, built([]int{tag}), api.Held{At: 4, Buf: "x"}, told{api.Held{At: 4, Over: api.ErrLex}, nil, api.ErrLex})
		ends(t, built([]int{tag}), api.Held{At: 4}, told{api.Held{At: 4, Over: api.ErrOver}, nil, api.OK})
	}
}

// As many bytes as may be at hand, as one token, as many, and with each place at which none begins.
func TestP27ManyBytes(t *testing.T) {
	p := madeOf(t, rulesOf(t, "a+", "b"))
	for n := 1; n <= 64; n++ {
		ends(t, p, api.Held{At: 1 << 40, Buf: strings.Repeat("a", n)}, told{api.Held{At: 1<<40 + n, Over: api.ErrOver}, same(1<<40, 0, 1, n), api.OK})
		ends(t, p, api.Held{At: 9, Buf: strings.Repeat("b", n)}, told{api.Held{At: 9 + n, Over: api.ErrOver}, same(9, 1, n, 1), api.OK})
		ends(t, chain(n+1), api.Held{At: 9, Buf: strings.Repeat("x", n)}, told{api.Held{At: 9, Over: api.ErrLex}, nil, api.ErrLex})
		s := strings.Repeat("b", n-1) + "?" + strings.Repeat("b", 64-n)
		ends(t, p, api.Held{At: 9, Buf: s}, told{api.Held{At: 8 + n, Over: api.ErrLex}, same(9, 1, n-1, 1), api.ErrLex})
	}
}

func TestP27AllOfFewStates(t *testing.T) {
	for n, most := range map[int]int{1: 1, 2: 1, 3: 0} {
		texts := textsUpTo(4, "ab")
		ofFewStates(n, most, func(p api.Packed) {
			run := bySteps(p)
			for _, s := range texts {
				var want told
				want.h, want.l, want.err = plainEnd(p, run, 7, s)
				ends(t, p, api.Held{At: 7, Buf: s}, want)
			}
		})
	}
}

func TestP27Sampled(t *testing.T) {
	rng := rand.New(rand.NewSource(2))
	counts, many := map[api.Errno]int{}, 0
	for range 2000 {
		p := wildPacked(rng, 1+rng.Intn(200), 1+rng.Intn(40), 2+rng.Intn(60), 1+rng.Intn(4))
		h := api.Held{At: rng.Intn(1 << rng.Intn(41)), Buf: wildText(rng, rng.Intn(65), every())}
		var want told
		want.h, want.l, want.err = plainEnd(p, bySteps(p), h.At, h.Buf)
		ends(t, p, h, want)
		counts[want.err]++
		if len(want.l) > 1 {
			many++
		}
	}
	if counts[api.OK] < 300 || counts[api.ErrLex] < 300 || many < 300 {
		t.Errorf("told: %v; %d have more than one token", counts, many)
	}
}

// asLexTells: are all tokens of these pieces, and the error and its place, Lex's of the whole text? If all is over
// with ErrHold what was told must be a beginning of Lex's.
func asLexTells(t *testing.T, p api.Packed, pieces ...string) api.Errno {
	t.Helper()
	s := strings.Join(pieces, "")
	want, place, wrong := lexer.Lex(p, s)
	got, _ := fed(p, api.Held{}, pieces...)
	if got.err == api.OK {
		h, more, err := feed.End(p, got.h)
		got = told{h, append(got.l, more...), err}
	}
	at, over := len(s), api.ErrOver
	if wrong != api.OK {
		at, over = place, wrong
	}
	switch {
	case got.err == api.ErrHold:
		if len(got.l) > len(want) || !slices.Equal(got.l, want[:len(got.l)]) {
			t.Errorf("%s: of %.200q %s is told, which is no beginning of %s", brief(p), pieces, show(got), show(want))
		}
	case !slices.Equal(got.l, want) || got.err != wrong || got.h != api.Held{At: at, Over: over}:
		t.Errorf("%s: of %.200q %s is told, not %s, %d, %d", brief(p), pieces, show(got), show(want), place, wrong)
	}
	return got.err
}

// All texts of few bytes, cut in all ways, of all automata of few states.
func TestP27HoweverItIsCut(t *testing.T) {
	for n, longest := range map[int]int{1: 5, 2: 4} {
		texts := textsUpTo(longest, "ab")
		ofFewStates(n, 1, func(p api.Packed) {
			for _, s := range texts {
				for cuts := range 1 << max(len(s)-1, 0) {
					asLexTells(t, p, pieces(s, cuts)...)
				}
			}
		})
	}
}

func TestP27HoweverItIsCutOfThreeStates(t *testing.T) {
	texts := textsUpTo(4, "ab")
	texts = texts[len(texts)-16:]
	ofFewStates(3, 0, func(p api.Packed) {
		for i, s := range texts {
			asLexTells(t, p, pieces(s, i)...)
		}
	})
}

// Of rules, and longer texts, byte by byte, as a whole, with empty pieces between, and cut anywhere.
func TestP27HoweverItIsCutOfRules(t *testing.T) {
	rng := rand.New(rand.NewSource(3))
	counts := map[api.Errno]int{}
	for _, l := range [][]string{
		{"a", "ab", "abc", "b"},
		{"(a|b)*c", "a", "b+"},
		{"a*", "b*c", "[^a]"},
		{"ab|abab", "a", "[bc]+a"},
		{"(ab)*", "(ba)*", "c.c"},
		{"aa", "aaa", "ba|c"},
		{"a(b|c)?", "b(c|a)?", "c+b"},
		{"a", "b", "c", "[abc]*d"},
	} {
		p := madeOf(t, rulesOf(t, l...))
		for range 40 {
			s := wildText(rng, rng.Intn(100), "abc")
			counts[asLexTells(t, p, s)]++
			counts[asLexTells(t, p, strings.Split(s, "")...)]++
			counts[asLexTells(t, p, slices.Concat([]string{"", ""}, strings.SplitAfter(s, "a"), []string{""})...)]++
			counts[asLexTells(t, p, strings.SplitAfter(s, "bc")...)]++
			i, j := rng.Intn(len(s)+1), rng.Intn(len(s)+1)
			counts[asLexTells(t, p, s[:min(i, j)], s[min(i, j):max(i, j)], s[max(i, j):])]++
		}
	}
	if counts[api.OK] < 300 || counts[api.ErrLex] < 300 || counts[api.ErrHold] < 50 {
		t.Errorf("told: %v", counts)
	}
}

func TestP27HoweverItIsCutSampled(t *testing.T) {
	rng := rand.New(rand.NewSource(4))
	counts := map[api.Errno]int{}
	for range 2000 {
		p := wildPacked(rng, 1+rng.Intn(50), 1+rng.Intn(20), 2+rng.Intn(200), 1+rng.Intn(3))
		for range rng.Intn(5) {
			p.Next[rng.Intn(len(p.Next))] = slices.Repeat([]int{-1}, len(p.Next[0]))
		}
		var l []string
		for range 1 + rng.Intn(15) {
			l = append(l, wildText(rng, rng.Intn(20), every()))
		}
		counts[asLexTells(t, p, l...)]++
	}
	if counts[api.OK] < 200 || counts[api.ErrLex] < 200 || counts[api.ErrHold] < 100 {
		t.Errorf("told: %v", counts)
	}
}

// As long a text as Lex takes, in pieces of each of some lengths.
func TestP27LongTexts(t *testing.T) {
	p := madeOf(t, rulesOf(t, "[a-z]+", "\\s", "\\s\\s!", "[a-z]+\\.[a-z]+", "\\."))
	text := strings.Repeat("some words  and a word.word. x  ", 62) + "and a longer one"
	if len(text) != 2000 {
		t.Fatalf("it has %d bytes", len(text))
	}
	for _, s := range []string{text, text[:1999] + " ", text[:1999] + ".", text[:1000] + "?" + text[1001:], text[:1999] + "?", "?" + text[1:]} {
		for _, n := range []int{1, 2, 3, 7, 31, 32, 33, 63, 64, 65, 66, 999, 1000, 1999, 2000} {
			if err := asLexTells(t, p, piecesOf(s, n)...); err == api.ErrHold {
				t.Errorf("pieces of %d: it is held too long", n)
			}
		}
	}
}

// piecesOf cuts s into pieces of n bytes; the last one may be shorter.
func piecesOf(s string, n int) []string {
	var l []string
	for piece := range slices.Chunk([]byte(s), n) {
		l = append(l, string(piece))
	}
	return l
}

// A text may be longer than any piece, and than what Lex takes: places go on.
func TestP27ATextOfManyPieces(t *testing.T) {
	p := madeOf(t, rulesOf(t, "a+", "b"))
	piece := strings.Repeat("aaab", 500)
	h := api.Held{}
	for i := range 300 {
		want := cut(i*2000, slices.Repeat([]int{0, 1}, 500), slices.Repeat([]int{3, 1}, 500))
		h = feeds(t, p, h, piece, told{api.Held{At: (i + 1) * 2000}, want, api.OK})
	}
	h = feeds(t, p, h, "aa", told{api.Held{At: 600000, Buf: "aa"}, nil, api.OK})
	ends(t, p, h, told{api.Held{At: 600002, Over: api.ErrOver}, same(600000, 0, 1, 2), api.OK})
}

// What was told of a beginning is a beginning of what is told of all that goes on from there.
func TestP27WhatWasToldStays(t *testing.T) {
	more := textsUpTo(3, "ab")
	longer := 0
	check := func(p api.Packed, s string) {
		got, _ := fed(p, api.Held{}, s)
		for _, next := range more {
			want, _, _ := lexer.Lex(p, s+next)
			if len(got.l) > len(want) || !slices.Equal(got.l, want[:len(got.l)]) {
				t.Errorf("%s: of %q %s is told, which is no beginning of %s, of %q", brief(p), s, show(got), show(want), s+next)
			}
			if len(got.l) > 0 && len(got.l) < len(want) {
				longer++
			}
		}
	}
	for n, longest := range map[int]int{1: 3, 2: 3} {
		texts := textsUpTo(longest, "ab")
		ofFewStates(n, 1, func(p api.Packed) {
			for _, s := range texts {
				check(p, s)
			}
		})
	}
	for _, l := range [][]string{{"a", "ab", "b"}, {"a*b", "a"}, {"a", "b", "abba", "baab"}, {"(ab)*", "a?b", "aaa"}} {
		p := madeOf(t, rulesOf(t, l...))
		for _, s := range textsUpTo(6, "ab") {
			check(p, s)
		}
	}
	if longer < 1000 {
		t.Errorf("only %d go on", longer)
	}
}
