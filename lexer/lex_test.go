package lexer_test

import (
	"math/rand"
	"slices"
	"strings"
	"testing"

	"pushmill/api"
	"pushmill/lexer"
)

func TestP24Examples(t *testing.T) {
	p := madeOf(t, rulesOf(t, "a", "ab", "\\s+"))
	lex(t, p, "a ab", cut([]int{0, 2, 1}, []int{1, 1, 2}), 0, api.OK)
	lex(t, p, "aab", cut([]int{0, 1}, []int{1, 2}), 0, api.OK)
	lex(t, p, "ab    a", cut([]int{1, 2, 0}, []int{2, 4, 1}), 0, api.OK)
	lex(t, p, "abb", cut([]int{1}, []int{2}), 2, api.ErrLex)
	lex(t, p, "b", nil, 0, api.ErrLex)
	lex(t, p, "", nil, 0, api.OK)
	p = madeOf(t, rulesOf(t, "[0-9]+", "\\+", "[a-z][a-z0-9]*"))
	lex(t, p, "x1+12+3b", cut([]int{2, 1, 0, 1, 0, 2}, []int{2, 1, 2, 1, 1, 1}), 0, api.OK)
	lex(t, p, "1+A", cut([]int{0, 1}, []int{1, 1}), 2, api.ErrLex)
}

// The longest token is taken though no other one begins behind it, and one would behind a shorter one.
func TestP24NoSecondChoice(t *testing.T) {
	p := madeOf(t, rulesOf(t, "a", "ab", "bc"))
	lex(t, p, "abc", cut([]int{1}, []int{2}), 2, api.ErrLex)
	lex(t, p, "abcbc", cut([]int{1}, []int{2}), 2, api.ErrLex)
	lex(t, p, "aabbc", cut([]int{0, 1, 2}, []int{1, 2, 2}), 0, api.OK)
	p = madeOf(t, rulesOf(t, "a+", "ab"))
	lex(t, p, "aab", cut([]int{0}, []int{2}), 2, api.ErrLex)
	lex(t, p, "ab", cut([]int{1}, []int{2}), 0, api.OK)
}

// Where a longer one comes to nothing, what was read for it is read again.
func TestP24GoesBack(t *testing.T) {
	p := madeOf(t, rulesOf(t, "a", "abc", "b"))
	lex(t, p, "aba", cut([]int{0, 2, 0}, []int{1, 1, 1}), 0, api.OK)
	lex(t, p, "ab", cut([]int{0, 2}, []int{1, 1}), 0, api.OK)
	lex(t, p, "ababcab", cut([]int{0, 2, 1, 0, 2}, []int{1, 1, 3, 1, 1}), 0, api.OK)
	lex(t, p, "abab!", cut([]int{0, 2, 0, 2}, []int{1, 1, 1, 1}), 4, api.ErrLex)
	p = madeOf(t, rulesOf(t, "a", "a*b"))
	for _, n := range []int{1, 2, 10, 1999, 2000} { // all of the rest is read for each token
		lex(t, p, strings.Repeat("a", n), cut(make([]int, n), slices.Repeat([]int{1}, n)), 0, api.OK)
		lex(t, p, strings.Repeat("a", n-1)+"b", cut([]int{1}, []int{n}), 0, api.OK)
		lex(t, p, strings.Repeat("a", n-1)+"!", cut(make([]int, n-1), slices.Repeat([]int{1}, n-1)), n-1, api.ErrLex)
	}
}

// Of no text there is no token, also where the beginning has a tag.
func TestP24TheEmptyText(t *testing.T) {
	for tag := -1; tag < 20; tag++ {
		lex(t, ring(tag), "", nil, 0, api.OK)
		lex(t, built([]int{tag}), "", nil, 0, api.OK)
		lex(t, built([]int{tag}), "x", nil, 0, api.ErrLex)
	}
	p := madeOf(t, rulesOf(t, "a*", "b?"))
	lex(t, p, "", nil, 0, api.OK)
	lex(t, p, "aabba", cut([]int{0, 1, 1, 0}, []int{2, 1, 1, 1}), 0, api.OK)
	lex(t, p, "aac", cut([]int{0}, []int{2}), 2, api.ErrLex)
}

// The place is where the token would begin, not where reading has come to.
func TestP24WhereItIsWrong(t *testing.T) {
	p := madeOf(t, rulesOf(t, "xyz", "\\s"))
	lex(t, p, "xy", nil, 0, api.ErrLex)
	lex(t, p, "xyx", nil, 0, api.ErrLex)
	lex(t, p, " xy", cut([]int{1}, []int{1}), 1, api.ErrLex)
	lex(t, p, "xyz xy xyz", cut([]int{0, 1}, []int{3, 1}), 4, api.ErrLex)
	lex(t, p, "xyzz", cut([]int{0}, []int{3}), 3, api.ErrLex)
	for length := 1; length <= 2000; length++ {
		s := strings.Repeat(" ", length-1) + "x"
		lex(t, p, s, cut(slices.Repeat([]int{1}, length-1), slices.Repeat([]int{1}, length-1)), length-1, api.ErrLex)
	}
	for at := range 2000 {
		s := strings.Repeat(" ", at) + "?" + strings.Repeat(" ", 1999-at)
		lex(t, p, s, cut(slices.Repeat([]int{1}, at), slices.Repeat([]int{1}, at)), at, api.ErrLex)
	}
}

func TestP24LongTexts(t *testing.T) {
	for _, n := range []int{1, 2, 1999, 2000} {
		s := strings.Repeat("x", n)
		lex(t, ring(3), s, cut([]int{3}, []int{n}), 0, api.OK)
		lex(t, built([]int{-1, 19}, way{0, "x", 1}), s, cut(slices.Repeat([]int{19}, n), slices.Repeat([]int{1}, n)), 0, api.OK)
		lex(t, built([]int{-1}), s, nil, 0, api.ErrLex)
	}
	for _, n := range []int{2001, 2002, 4096, 1 << 20} {
		lexFails(t, ring(3), strings.Repeat("x", n), api.ErrLarge)
		lexFails(t, built([]int{-1}), strings.Repeat("x", n), api.ErrLarge)
		lexFails(t, built([]int{-1, 0}, way{0, "x", 1}), strings.Repeat("x", n-1)+"!", api.ErrLarge)
	}
}

// A chain of as many states as there may be has one token, of all of its bytes.
func TestP24ManyStates(t *testing.T) {
	tags, ways := slices.Repeat([]int{-1}, 200), []way(nil)
	tags[199] = 7
	for state := range 199 {
		ways = append(ways, way{state, every()[state : state+1], state + 1})
	}
	p := built(tags, ways...)
	token := every()[:199]
	lex(t, p, token, cut([]int{7}, []int{199}), 0, api.OK)
	lex(t, p, strings.Repeat(token, 10), cut(slices.Repeat([]int{7}, 10), slices.Repeat([]int{199}, 10)), 0, api.OK)
	lex(t, p, token+token[:198], cut([]int{7}, []int{199}), 199, api.ErrLex)
	lex(t, p, token+every()[199:], cut([]int{7}, []int{199}), 199, api.ErrLex)
}

func TestP24WhichError(t *testing.T) {
	for _, w := range wrongOnes() {
		for _, s := range []string{"", "a", strings.Repeat("a", 2000), strings.Repeat("a", 2001)} {
			lexFails(t, w.p, s, w.err)
		}
	}
}

// What is wrong with the automaton is told though no text leads there.
func TestP24WrongWhereNothingLeads(t *testing.T) {
	for _, fault := range []func(p *api.Packed){
		func(p *api.Packed) { p.Tags[2] = 20 },
		func(p *api.Packed) { p.Next[2]['z'] = 3 },
		func(p *api.Packed) { p.Next[1] = p.Next[1][:255] },
	} {
		p := built([]int{-1, 0, 0}, way{0, "a", 0})
		lex(t, p, "", nil, 0, api.OK)
		fault(&p)
		lexFails(t, p, "", api.ErrArg)
		lexFails(t, p, "a", api.ErrArg)
		oneFails(t, p, "a", 0, api.ErrArg)
	}
}

func TestP24AllOfThreeStates(t *testing.T) {
	texts := textsUpTo(5, "ab")
	ofFewStates(3, 0, func(p api.Packed) {
		tag := bySteps(p)
		for _, s := range texts {
			lexAgrees(t, tag, p, s)
		}
	})
}

func TestP24Sampled(t *testing.T) {
	rng := rand.New(rand.NewSource(3))
	counts, many := map[api.Errno]int{}, 0
	for range 1500 {
		p := wildPacked(rng, 1+rng.Intn(200), 1+rng.Intn(40), 2+rng.Intn(60), 1+rng.Intn(4))
		s := wildText(rng, rng.Intn(60), every())
		want, at, err := plainLex(bySteps(p), s, 0)
		lex(t, p, s, want, at, err)
		counts[err]++
		if len(want) > 1 {
			many++
		}
	}
	if counts[api.OK] < 300 || counts[api.ErrLex] < 300 || many < 300 {
		t.Errorf("told: %v; %d have more than one token", counts, many)
	}
}

// What is told of some rules is what the rules themselves say, with no automaton between.
func TestP24AsTheRulesSay(t *testing.T) {
	rng := rand.New(rand.NewSource(4))
	counts := map[api.Errno]int{}
	for _, l := range [][]string{
		{"a", "ab", "abc", "b"},
		{"(a|b)*c", "a", "b+"},
		{"a*", "b*c", "[^a]"},
		{"ab|abab", "a", "[bc]+a"},
		{"(ab)*", "(ba)*", "c.c"},
		{"aa", "aaa", "ba|c"},
		{"a(b|c)?", "b(c|a)?", "c+b"},
		{"c", "c"},
	} {
		rules := rulesOf(t, l...)
		p, tag := madeOf(t, rules), byRules(rules)
		for _, s := range textsUpTo(4, "abc") {
			agrees(t, tag, p, s)
		}
		for range 60 {
			s := wildText(rng, 5+rng.Intn(20), "abc")
			agrees(t, tag, p, s)
			_, _, err := lexer.Lex(p, s)
			counts[err]++
		}
	}
	if counts[api.OK] < 100 || counts[api.ErrLex] < 100 {
		t.Errorf("told: %v", counts)
	}
}

// Tokens follow one another from 0 on, up to the end or to the place, and each is the one that One tells there.
func TestP24IsOneByOne(t *testing.T) {
	rng := rand.New(rand.NewSource(5))
	for range 300 {
		p := wildPacked(rng, 1+rng.Intn(9), 1+rng.Intn(5), 2+rng.Intn(200), 1+rng.Intn(3))
		s := wildText(rng, rng.Intn(2001), every())
		l, at, err := lexer.Lex(p, s)
		end := 0
		for _, token := range l {
			one(t, p, s, end, token)
			end = token.To
		}
		switch err {
		case api.OK:
			if end != len(s) || at != 0 {
				t.Errorf("of %d bytes the tokens end at %d, and %d is told", len(s), end, at)
			}
		case api.ErrLex:
			if end != at {
				t.Errorf("the tokens end at %d, and %d is told", end, at)
			}
			noOne(t, p, s, at)
		default:
			t.Errorf("Lex(%s, %.40q of %d): %d", brief(p), s, len(s), err)
		}
	}
}
