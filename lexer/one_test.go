package lexer_test

import (
	"math"
	"math/rand"
	"strings"
	"testing"

	"pushmill/api"
	"pushmill/lexer"
)

func TestP23Examples(t *testing.T) {
	p := madeOf(t, rulesOf(t, "a", "ab", "\\s+"))
	one(t, p, "a ab", 0, api.Token{Rule: 0, From: 0, To: 1})
	one(t, p, "a ab", 1, api.Token{Rule: 2, From: 1, To: 2})
	one(t, p, "a ab", 2, api.Token{Rule: 1, From: 2, To: 4})
	noOne(t, p, "a ab", 3)
	noOne(t, p, "a ab", 4)
	one(t, p, "aab", 1, api.Token{Rule: 1, From: 1, To: 3})
	one(t, p, "   a", 0, api.Token{Rule: 2, From: 0, To: 3})
	noOne(t, p, "ba", 0)
	noOne(t, p, "a", 1)
}

// The longest one, also where what lies between is none, or nothing comes of a longer one in the end.
func TestP23TheLongest(t *testing.T) {
	p := madeOf(t, rulesOf(t, "a", "aabb", "aabbabab"))
	for s, length := range map[string]int{
		"a": 1, "aa": 1, "aab": 1, "aabb": 4, "aabbb": 4, "aabba": 4, "aabbaba": 4, "aabbabab": 8, "aabbabaa": 4, "aabbababa": 8, "aabab": 1,
	} {
		one(t, p, s, 0, api.Token{Rule: map[int]int{1: 0, 4: 1, 8: 2}[length], From: 0, To: length})
		one(t, p, "x"+s, 1, api.Token{Rule: map[int]int{1: 0, 4: 1, 8: 2}[length], From: 1, To: 1 + length})
	}
	for _, s := range []string{"", "b", "ba", "xa", "Aabb"} {
		noOne(t, p, s, 0)
	}
}

// Of the rules that match the longest one it is the least; a shorter one of a lesser rule does not count.
func TestP23TheRule(t *testing.T) {
	p := madeOf(t, rulesOf(t, "if", "[a-z]+", "[a-z0-9]+", "i"))
	one(t, p, "if", 0, api.Token{Rule: 0, To: 2})
	one(t, p, "ifs", 0, api.Token{Rule: 1, To: 3})
	one(t, p, "if2", 0, api.Token{Rule: 2, To: 3})
	one(t, p, "i", 0, api.Token{Rule: 1, To: 1})
	one(t, p, "if if", 3, api.Token{Rule: 0, From: 3, To: 5})
	for tag := range 20 {
		one(t, built([]int{-1, tag}, way{0, "a", 1}), "ba", 1, api.Token{Rule: tag, From: 1, To: 2})
	}
}

// A token has a byte at least: the tag of the beginning counts only where something leads back there.
func TestP23NoTokenWithoutAByte(t *testing.T) {
	p := built([]int{4, -1}, way{0, "a", 1}, way{1, "b", 0})
	noOne(t, p, "", 0)
	noOne(t, p, "x", 0)
	noOne(t, p, "a", 0)
	noOne(t, p, "aa", 0)
	one(t, p, "ab", 0, api.Token{Rule: 4, To: 2})
	one(t, p, "aba", 0, api.Token{Rule: 4, To: 2})
	one(t, p, "ababa", 0, api.Token{Rule: 4, To: 4})
	noOne(t, p, "ab", 1)
	noOne(t, p, "ab", 2)
	p = madeOf(t, rulesOf(t, "a*", "b"))
	noOne(t, p, "", 0)
	noOne(t, p, "c", 0)
	noOne(t, p, "aa", 2)
	one(t, p, "aab", 0, api.Token{Rule: 0, To: 2})
	one(t, p, "aab", 2, api.Token{Rule: 1, From: 2, To: 3})
}

// What lies ahead of the place does not count.
func TestP23AheadOfThePlace(t *testing.T) {
	p := madeOf(t, rulesOf(t, "ab", "b"))
	one(t, p, "ab", 0, api.Token{Rule: 0, To: 2})
	one(t, p, "ab", 1, api.Token{Rule: 1, From: 1, To: 2})
	rng := rand.New(rand.NewSource(1))
	for range 500 {
		p, s, ahead := wildPacked(rng, 1+rng.Intn(6), 3, 3, 2), wildText(rng, rng.Intn(9), every()), wildText(rng, rng.Intn(30), every())
		first, is, _ := lexer.One(p, s, 0)
		if !is {
			noOne(t, p, ahead+s, len(ahead))
			continue
		}
		one(t, p, ahead+s, len(ahead), api.Token{Rule: first.Rule, From: len(ahead), To: len(ahead) + first.To})
	}
}

func TestP23Bytes(t *testing.T) {
	for b := range 256 {
		p := built([]int{-1, 3}, way{0, every()[b : b+1], 1})
		for other := range 256 {
			if s := every()[other:] + every()[:other]; other == b {
				one(t, p, s, 0, api.Token{Rule: 3, To: 1})
			} else {
				noOne(t, p, s, 0)
			}
		}
	}
	p := built([]int{-1, -1, 5}, way{0, "\xc3", 1}, way{1, "\xa9", 2})
	one(t, p, "éé", 2, api.Token{Rule: 5, From: 2, To: 4}) // bytes, not letters
	noOne(t, p, "éé", 1)
}

// Columns that nobody has, and some that are alike, are as good as others.
func TestP23Columns(t *testing.T) {
	p := api.Packed{Next: [][]int{{-1, 1, 0, 1, 0}, {1, -1, 1, -1, 0}}, Tags: []int{-1, 2}}
	p.Of['a'], p.Of['b'] = 1, 3
	one(t, p, "a", 0, api.Token{Rule: 2, To: 1})
	one(t, p, "b", 0, api.Token{Rule: 2, To: 1})
	one(t, p, "axyz", 0, api.Token{Rule: 2, To: 4})
	one(t, p, "bxyab", 0, api.Token{Rule: 2, To: 3})
	noOne(t, p, "xa", 0)
	for n := 1; n <= 256; n++ { // the last of so many columns is that of one byte
		p := api.Packed{Next: [][]int{make([]int, n)}, Tags: []int{1}}
		p.Next[0][n-1] = -1
		p.Of['!'] = uint8(n - 1)
		if n == 1 {
			noOne(t, p, "ab", 0)
		} else {
			one(t, p, "ab!c", 0, api.Token{Rule: 1, To: 2})
			noOne(t, p, "ab!c", 2)
		}
	}
}

func TestP23Places(t *testing.T) {
	p := ring(6)
	for _, s := range []string{"", "a", "ab", strings.Repeat("x", 1999), strings.Repeat("x", 2000)} {
		n := len(s)
		for _, from := range []int{math.MinInt, math.MinInt32, -1 << 32, -n, -2, -1, n + 1, n + 2, 2001, 4096, 1 << 32, math.MaxInt} {
			if from != 0 {
				oneFails(t, p, s, from, api.ErrArg)
			}
		}
		for from := range n {
			one(t, p, s, from, api.Token{Rule: 6, From: from, To: n})
		}
		noOne(t, p, s, n)
	}
}

func TestP23LongTexts(t *testing.T) {
	for _, n := range []int{1, 2, 7, 199, 200} {
		tags := make([]int, n)
		for state := range tags {
			tags[state] = -1
		}
		tags[n-1] = 11
		for _, length := range []int{199, 200, 201, 1023, 1024, 1998, 1999, 2000} {
			s := strings.Repeat("x", length)
			for _, from := range []int{0, 1, length / 2, length - 1} {
				if to := lastOf(n, length-from); to == 0 {
					noOne(t, ring(tags...), s, from)
				} else {
					one(t, ring(tags...), s, from, api.Token{Rule: 11, From: from, To: from + to})
				}
			}
		}
	}
	for _, length := range []int{2001, 2002, 4000, 4096, 1 << 16, 1 << 20} {
		for _, from := range []int{0, 1, 2000, length} {
			oneFails(t, ring(0), strings.Repeat("x", length), from, api.ErrLarge)
		}
	}
}

// lastOf is how many of up to length bytes lead to the last state of a ring of n, at the most; 0, if none do.
func lastOf(n, length int) int {
	for k := length; k > 0; k-- {
		if k%n == n-1 {
			return k
		}
	}
	return 0
}

// Of several errors that of the automaton comes first, then that of the text, then that of the place.
func TestP23WhichError(t *testing.T) {
	wrong := wrongOnes()
	counts := map[api.Errno]int{}
	for _, w := range wrong {
		counts[w.err]++
		for _, s := range []string{"", "a", strings.Repeat("a", 2000), strings.Repeat("a", 2001)} {
			for _, from := range []int{-1, 0, len(s), len(s) + 1, math.MinInt, math.MaxInt} {
				oneFails(t, w.p, s, from, w.err)
			}
		}
	}
	if counts[api.ErrArg] < 40 || counts[api.ErrLarge] < 10 {
		t.Errorf("wrong automata: %v", counts)
	}
	for _, from := range []int{math.MinInt, -1, 0, 2001, 2002, math.MaxInt} {
		oneFails(t, ring(0), strings.Repeat("a", 2001), from, api.ErrLarge)
	}
}

func TestP23AllOfFewStates(t *testing.T) {
	for n, longest := range map[int]int{1: 5, 2: 4} {
		texts := textsUpTo(longest, "ab")
		ofFewStates(n, 1, func(p api.Packed) {
			tag := byUnpack(t, p)
			for _, s := range texts {
				agrees(t, tag, p, s)
			}
		})
	}
}

func TestP23AllOfThreeStates(t *testing.T) {
	texts := textsUpTo(4, "ab")
	ofFewStates(3, 0, func(p api.Packed) {
		tag := bySteps(p)
		for _, s := range texts[1:] {
			if want, is := plainOne(tag, s, 0); is {
				one(t, p, s, 0, want)
			} else {
				noOne(t, p, s, 0)
			}
		}
	})
}

func TestP23Sampled(t *testing.T) {
	rng := rand.New(rand.NewSource(2))
	found, shorter := 0, 0
	for range 3000 {
		p := wildPacked(rng, 1+rng.Intn(200), 1+rng.Intn(40), 2+rng.Intn(30), 1+rng.Intn(9))
		s := wildText(rng, rng.Intn(80), every())
		from := rng.Intn(len(s) + 1)
		want, is := plainOne(bySteps(p), s, from)
		if !is {
			noOne(t, p, s, from)
			continue
		}
		one(t, p, s, from, want)
		found++
		if want.To < len(s) {
			shorter++
		}
	}
	if found < 1000 || found > 2800 || shorter < 500 {
		t.Errorf("of 3000 places %d have a token, %d of them one that ends ahead of the text", found, shorter)
	}
}
