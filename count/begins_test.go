package count_test

import (
	"math/rand"
	"slices"
	"testing"

	"pushmill/api"
	"pushmill/count"
)

func TestP43KnownBeginnings(t *testing.T) {
	sums := must(t, "3 2\n0: n0 t1 n1\n0: n1\n1: t0\n1: t2 n0\n")
	for _, c := range []struct {
		word string
		want bool
	}{
		{"", true}, {"0", true}, {"1", false}, {"00", true}, {"01", true}, {"10", false}, {"11", false}, {"001", true}, {"010", false}, {"011", false},
		{"0001", true}, {"00011", true}, {"000111", true}, {"0001111", false}, {"0001110", false}, {"00010", false},
		{"00000000000000000000", true}, {"00000000000000000001", true}, {"00000000001111111111", true}, {"00000000011111111110", false}, {"00000000011111111111", false},
		{"10000000000000000000", false},
	} {
		begins(t, brackets(), word(c.word), c.want)
	}
	for _, c := range []struct {
		word string
		want bool
	}{
		{"", true}, {"0", true}, {"2", true}, {"1", false}, {"01", true}, {"02", false}, {"00", false}, {"22", true}, {"21", false}, {"20", true}, {"012", true}, {"011", false},
		{"01010101010101010101", true}, {"01010101010101010122", true}, {"22222222222222222222", true}, {"22222222222222222221", false}, {"01010101010101010100", false},
	} {
		begins(t, sums, word(c.word), c.want)
	}
}

// The empty word is a beginning, if there is a word at all.
func TestP43TheEmptyWord(t *testing.T) {
	for s, want := range map[string]bool{
		"1 1\n":                                false,
		"0 1\n":                                false,
		"0 1\n0:\n":                            true,
		"1 1\n0:\n":                            true,
		"1 1\n0: t0\n":                         true,
		"1 1\n0: n0\n":                         false,
		"1 1\n0: n0 t0\n":                      false,
		"1 1\n0: t0 n0\n":                      false,
		"1 1\n0: t0 n0\n0: t0 t0\n":            true,
		"1 1\n0: n0\n0: t0\n":                  true,
		"1 2\n1: t0\n1:\n":                     false,
		"1 2\n0: n1\n1: t0\n":                  true,
		"1 2\n0: n1\n1: n0\n":                  false,
		"1 2\n0: n1\n1: n0\n1:\n":              true,
		"1 3\n0: n1 n2\n1: t0\n":               false,
		"1 3\n0: n2 n1\n1: t0\n":               false,
		"1 3\n0: n1 n2\n1: t0\n2: n1\n":        true,
		"1 3\n0: n1 n2\n1: t0\n2: n0\n":        false,
		"1 3\n0: n1 n2\n1: t0\n2: n0\n2: t0\n": true,
		"1 3\n0: n1\n0: n2\n1: n1 t0\n2: t0\n": true,
		"1 3\n0: n1\n0: n2\n1: n1 t0\n2: n1\n": false,
	} {
		begins(t, must(t, s), nil, want)
		begins(t, must(t, s), []int{}, want)
	}
}

// What comes ahead of a symbol that makes nothing is no beginning.
func TestP43WhatMakesNothing(t *testing.T) {
	g := must(t, "2 3\n0: t0 n1\n0: t1 n2\n0: t0 t1 t0\n1: n1 t0\n2: t0 n2\n2: t1 n1 t1\n2: t1\n")
	for s, want := range map[string]bool{"0": true, "00": false, "01": true, "010": true, "011": false, "0100": false, "1": true, "10": true, "100": true, "1000000": true, "101": true, "11": true, "110": false, "111": false} {
		begins(t, g, word(s), want)
	}
	h := must(t, "2 2\n0: n1 t0\n0: n0 t1\n")
	for _, s := range []string{"", "0", "1", "01"} {
		begins(t, h, word(s), false)
	}
	begins(t, must(t, "2 2\n0: t0 t1\n0: t0 t0 n1\n"), word("00"), false)
	begins(t, must(t, "2 2\n0: t0 t1\n0: t0 t0 n1\n1: t1\n"), word("00"), true)
	begins(t, must(t, "2 2\n0: t0 t1 n1 t0\n0: t0\n"), word("01"), false)
}

// What is ahead may make nothing of its own, or more of itself.
func TestP43WhatIsAheadOrBehind(t *testing.T) {
	g := must(t, "3 3\n0: n1 n0 n1 n2\n0: t1\n1:\n1: t0\n2: t2\n2: n2 n2\n")
	for s, want := range map[string]bool{
		"1": true, "01": true, "001": true, "10": true, "1022": true, "02": false, "12": true, "122222222": true, "1202": true, "12020": true, "012020": true, "2": false, "11": false, "1000": false, "10000000000000000001": false,
		"00000000000000000000": true, "00000000000000000001": true, "10202020202020202020": true, "100": false, "1020220202": true,
	} {
		begins(t, g, word(s), want)
	}
	left := must(t, "2 2\n0: n0 t0\n0: n1\n1: n1 t1\n1: t1\n")
	for s, want := range map[string]bool{"": true, "0": false, "1": true, "11": true, "10": true, "110": true, "101": false, "11111111110000000000": true, "11111111110000000001": false} {
		begins(t, left, word(s), want)
	}
	round := must(t, "1 2\n0: n1\n1: n0\n1: t0 t0 t0\n")
	for n := range 6 {
		begins(t, round, make([]int, n), n <= 3)
	}
}

// A word of which this is the beginning may be far longer than the words that are counted.
func TestP43LongWords(t *testing.T) {
	g := must(t, "2 8\n0: n1 n1 n1 n1 n1 n1 n1 n1\n1: n2 n2 n2 n2 n2 n2 n2 n2\n2: n3 n3 n3 n3 n3 n3 n3 n3\n3: n4 n4 n4 n4 n4 n4 n4 n4\n4: t0 t0 t0 t0 t0 t0 t0 t1\n")
	l := word("00000001000000010000")
	for n := range 21 {
		begins(t, g, l[:n], true)
		has(t, g, l[:n], 0)
	}
	for n := range 20 {
		other := slices.Clone(l)
		other[n] = 1 - l[n]
		begins(t, g, other, false)
		begins(t, g, other[:n+1], false)
		begins(t, g, other[:n], true)
	}
	deep := must(t, "1 1\n0: t0 n0 n0 n0 n0 n0 n0 n0\n0: t0 t0\n")
	for n := range 21 {
		begins(t, deep, make([]int, n), true)
	}
}

// A whole word is a beginning, and so are all its own.
func TestP43BeginningsOfWords(t *testing.T) {
	rng := rand.New(rand.NewSource(6))
	tried := 0
	for range 2000 {
		g := wildOne(rng)
		x, ok := grown(rng, g, rng.Intn(80))
		if !ok {
			continue
		}
		l := yield(g, x)
		for n := range min(20, len(l)) + 1 {
			begins(t, g, l[:n], true)
			tried++
		}
	}
	if tried < 3000 {
		t.Errorf("only %d beginnings were tried", tried)
	}
}

// All that begins a word, by the words themselves: a short beginning in a small grammar needs only a few terminals more.
func TestP43AllSmallGrammars(t *testing.T) {
	told := map[bool]int{}
	try := func(g api.Grammar, most, more int) {
		known := map[string]bool{}
		for w := range treesOf(g, upTo(most+more))[0] {
			for n := range min(most, len(w)) + 1 {
				known[w[:n]] = true
			}
		}
		for _, l := range allWords(g.Terms, most) {
			begins(t, g, l, known[text(l)])
			told[known[text(l)]]++
		}
	}
	small(1, 1, 3, 2, func(g api.Grammar) { try(g, 4, 2) })
	small(2, 1, 3, 2, func(g api.Grammar) { try(g, 3, 2) })
	small(2, 1, 2, 3, func(g api.Grammar) { try(g, 1, 6) })
	small(2, 2, 2, 2, func(g api.Grammar) { try(g, 3, 3) })
	small(1, 2, 3, 2, func(g api.Grammar) { try(g, 3, 6) })
	small(1, 3, 2, 2, func(g api.Grammar) { try(g, 3, 3) })
	if told[true] < 10000 || told[false] < 10000 {
		t.Errorf("told: %v", told)
	}
}

// Against the second reading, on greater grammars and longer words.
func TestP43Samples(t *testing.T) {
	rng := rand.New(rand.NewSource(7))
	told := map[bool]int{}
	try := func(g api.Grammar) {
		for range 4 {
			l := wildWord(rng, g, 6)
			if x, ok := grown(rng, g, rng.Intn(60)); ok && rng.Intn(4) > 0 {
				l = yield(g, x)
				l = l[:rng.Intn(min(20, len(l))+1)]
				if n := len(l); n > 0 && rng.Intn(3) > 0 {
					l[n-1-rng.Intn(min(n, 3))] = rng.Intn(g.Terms)
				}
			}
			want := plainBegins(g, l)
			begins(t, g, l, want)
			if len(l) > 1 {
				told[want]++
			}
		}
	}
	for range 2000 {
		try(wild(rng, 1+rng.Intn(3), 1+rng.Intn(5), 1+rng.Intn(12), 1+rng.Intn(8), 3+rng.Intn(7)))
	}
	for range 500 {
		try(wildOne(rng))
	}
	if told[true] < 1000 || told[false] < 1000 {
		t.Errorf("told: %v", told)
	}
}

// A beginning is a word itself, or can go on by some terminal.
func TestP43ABeginningGoesOn(t *testing.T) {
	rng := rand.New(rand.NewSource(8))
	told := map[bool]int{}
	try := func(g api.Grammar) {
		l := someWord(rng, g, 20)
		for n := range len(l) {
			is, _ := count.Begins(g, l[:n])
			many, _ := count.Trees(g, l[:n])
			goes := many > 0
			for next := range g.Terms {
				more, _ := count.Begins(g, append(slices.Clone(l[:n]), next))
				goes = goes || more
			}
			if goes != is {
				t.Fatalf("Begins(%s, %v): %v, but that it is a word or goes on is %v", show(g), l[:n], is, goes)
			}
			told[is]++
		}
	}
	for range 800 {
		try(wild(rng, 1+rng.Intn(3), 1+rng.Intn(20), rng.Intn(41), rng.Intn(9), 3+rng.Intn(7)))
	}
	for range 100 {
		try(wildOne(rng))
	}
	if told[true] < 500 || told[false] < 500 {
		t.Errorf("told: %v", told)
	}
}
