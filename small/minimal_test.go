package small_test

import (
	"math/rand"
	"slices"
	"strings"
	"testing"

	"pushmill/api"
	"pushmill/dfa"
	"pushmill/small"
)

// shrinks: does Minimal answer want of d?
func shrinks(t *testing.T, d, want api.Dfa) {
	t.Helper()
	got, err := small.Minimal(d)
	if err != api.OK || !same(got, want) {
		t.Errorf("Minimal(%s) = %s, %d, not %s", brief(d), brief(got), err, brief(want))
	}
}

func TestP20Examples(t *testing.T) {
	shrinks(t, madeOf(t, "ab*"), built([]int{-1, 0}, way{0, "a", 1}, way{1, "b", 1}))
	shrinks(t, madeOf(t, "ab*", "a"), built([]int{-1, 0}, way{0, "a", 1}, way{1, "b", 1}))
	shrinks(t, madeOf(t, "a", "ab*"), built([]int{-1, 0, 1}, way{0, "a", 1}, way{1, "b", 2}, way{2, "b", 2}))
	shrinks(t, madeOf(t, "(a|b)*a"), built([]int{-1, 0}, way{0, "a", 1}, way{0, "b", 0}, way{1, "a", 1}, way{1, "b", 0}))
	shrinks(t, madeOf(t, "(ab)*"), built([]int{0, -1}, way{0, "a", 1}, way{1, "b", 0}))
	shrinks(t, madeOf(t, "(a|b)c"), built([]int{-1, -1, 0}, way{0, "ab", 1}, way{1, "c", 2}))
	shrinks(t, madeOf(t, "a", "b"), built([]int{-1, 0, 1}, way{0, "a", 1}, way{0, "b", 2}))
	shrinks(t, madeOf(t, "ab[]|b"), built([]int{-1, 0}, way{0, "b", 1}))
}

// Where nothing has a tag, state 0 is there, and leads nowhere, itself included.
func TestP20NoTagAtAll(t *testing.T) {
	for n := 1; n <= 200; n++ {
		d := idle(n)
		shrinks(t, d, idle(1))
		for state := range n {
			for b := range 256 {
				d.Rows[state][b] = int16((state*7 + b) % n)
			}
		}
		shrinks(t, d, idle(1))
		if n > 1 { // a tag to which nothing leads
			d = idle(n)
			d.Tags[n-1] = 3
			d.Rows[n-1]['a'], d.Rows[0]['a'] = 0, 0
			shrinks(t, d, idle(1))
		}
	}
	shrinks(t, madeOf(t, "[]"), idle(1))
	shrinks(t, madeOf(t, "a[]", "bc[]d"), idle(1))
}

func TestP20TheBeginningAlone(t *testing.T) {
	for tag := 0; tag < 20; tag++ {
		shrinks(t, built([]int{tag}), built([]int{tag}))
		shrinks(t, ring(tag), built([]int{tag}, way{0, every(), 0}))
		shrinks(t, built([]int{tag, -1}, way{0, "ab", 1}, way{1, every(), 1}), built([]int{tag}))
		shrinks(t, built([]int{tag, tag, tag}, way{0, "a", 2}, way{1, "a", 0}, way{2, "a", 1}), built([]int{tag}, way{0, "a", 0}))
	}
}

// A byte leads to -1, if no text that goes on so has a tag.
func TestP20WhatLeadsToNoTag(t *testing.T) {
	shrinks(t, built([]int{-1, 4, -1, -1},
		way{0, "a", 1}, way{0, "b", 2}, way{1, "c", 3}, way{2, "ab", 3}, way{3, "a", 2}), built([]int{-1, 4}, way{0, "a", 1}))
	// Without a tag of its own a state is there, if one comes behind it.
	shrinks(t, built([]int{-1, -1, -1, 0}, way{0, "b", 1}, way{0, "a", 2}, way{1, "x", 3}, way{2, "y", 2}),
		built([]int{-1, -1, 0}, way{0, "b", 1}, way{1, "x", 2}))
	d := built([]int{-1, 0, -1}, way{0, every(), 2}, way{1, every(), 2}, way{2, every(), 2})
	d.Rows[0]['k'] = 1
	shrinks(t, d, built([]int{-1, 0}, way{0, "k", 1}))
}

func TestP20NumberedAsFirstComeTo(t *testing.T) {
	shrinks(t, built([]int{-1, 1, 2, 3}, way{0, "a", 3}, way{0, "b", 2}, way{0, "c", 1}),
		built([]int{-1, 3, 2, 1}, way{0, "a", 1}, way{0, "b", 2}, way{0, "c", 3}))
	shrinks(t, built([]int{-1, 1, 2, 3}, way{0, "\xff", 1}, way{0, "\x00", 2}, way{0, "\x80", 3}),
		built([]int{-1, 2, 3, 1}, way{0, "\x00", 1}, way{0, "\x80", 2}, way{0, "\xff", 3}))
	// All that the beginning leads to comes ahead of what those lead to.
	shrinks(t, built([]int{-1, 1, 2, 3, 4, 5}, way{0, "a", 5}, way{0, "b", 1}, way{5, "a", 4}, way{5, "b", 3}, way{1, "a", 2}),
		built([]int{-1, 5, 1, 4, 3, 2}, way{0, "a", 1}, way{0, "b", 2}, way{1, "a", 3}, way{1, "b", 4}, way{2, "a", 5}))
	// Of states that are one the first that is come to counts.
	shrinks(t, built([]int{-1, 7, 8, 7}, way{0, "a", 3}, way{0, "b", 2}, way{0, "c", 1}),
		built([]int{-1, 7, 8}, way{0, "ac", 1}, way{0, "b", 2}))
}

// Two states that differ in one tag behind one byte, or in their own tag, are two.
func TestP20EachByteCounts(t *testing.T) {
	for b := range 256 {
		one := string([]byte{byte(b)})
		d := built([]int{-1, 0, 0, 5, 5}, way{0, "a", 1}, way{0, "b", 2}, way{1, every(), 3}, way{2, every(), 4})
		shrinks(t, d, built([]int{-1, 0, 5}, way{0, "ab", 1}, way{1, every(), 2}))
		d.Rows[2][b] = -1
		rest := strings.Replace(every(), one, "", 1)
		shrinks(t, d, built([]int{-1, 0, 0, 5}, way{0, "a", 1}, way{0, "b", 2}, way{1, every(), 3}, way{2, rest, 3}))
		d.Rows[2][b] = 2
		shrinks(t, d, built([]int{-1, 0, 0, 5}, way{0, "a", 1}, way{0, "b", 2}, way{1, every(), 3}, way{2, rest, 3}, way{2, one, 2}))
	}
}

func TestP20EachTagCounts(t *testing.T) {
	for p := range 20 {
		for q := range 20 {
			want := built([]int{-1, p, q}, way{0, "a", 1}, way{0, "b", 2})
			if p == q {
				want = built([]int{-1, p}, way{0, "ab", 1})
			}
			shrinks(t, built([]int{-1, p, q}, way{0, "a", 1}, way{0, "b", 2}), want)
		}
		shrinks(t, built([]int{-1, p, -1}, way{0, "a", 1}, way{0, "b", 2}), built([]int{-1, p}, way{0, "a", 1}))
		shrinks(t, built([]int{p, -1, p}, way{0, "a", 1}, way{1, "a", 2}), built([]int{p, -1, p}, way{0, "a", 1}, way{1, "a", 2}))
		shrinks(t, built([]int{p, -1, p}, way{0, "a", 1}, way{1, "a", 2}, way{2, "a", 1}), built([]int{p, -1}, way{0, "a", 1}, way{1, "a", 0}))
	}
}

// All automata of up to three states, by the tags of all texts that may tell their states apart.
func TestP20AllOfFewStates(t *testing.T) {
	twin := twins(built([]int{0, 0, 0}, way{0, "a", 1}, way{1, "b", 2}))
	for n := 1; n <= 3; n++ {
		texts := textsUpTo(n, "ab")
		ofFewStates(n, 1, func(d api.Dfa) { shrinks(t, d, plainMinimal(d, twin, byTexts(d, texts))) })
	}
}

// No automaton of up to three states has the same tags as an answer, and fewer states.
func TestP20NoneHasFewer(t *testing.T) {
	texts := textsUpTo(6, "ab")
	tags := func(d api.Dfa) string {
		l := make([]byte, len(texts))
		for i, s := range texts {
			l[i] = byte(tagFrom(d, 0, s) + 1)
		}
		return string(l)
	}
	fewest := map[string]int{}
	for n := 1; n <= 3; n++ {
		ofFewStates(n, 0, func(d api.Dfa) {
			key := tags(d)
			if _, again := fewest[key]; !again {
				fewest[key] = n
			}
			m, err := small.Minimal(d)
			if err != api.OK || len(m.Rows) != fewest[key] || tags(m) != key {
				t.Errorf("Minimal(%s) = %s, %d, not %d states", brief(d), brief(m), err, fewest[key])
			}
		})
	}
}

func TestP20Sampled(t *testing.T) {
	rng := rand.New(rand.NewSource(1))
	fewer, none, sizes := 0, 0, map[int]int{}
	for range 1500 {
		n := 1 + rng.Intn(12)
		d := plainDfa(rng, n, 2+rng.Intn(4), rng.Intn(3), 1+rng.Intn(3))
		twin := twins(d)
		want := plainMinimal(d, twin, byPairs(d, twin))
		shrinks(t, d, want)
		sizes[len(want.Rows)]++
		if len(want.Rows) < n {
			fewer++
		} else {
			none++
		}
	}
	if fewer < 300 || none < 300 || len(sizes) < 8 {
		t.Errorf("tried: %d with fewer, %d with as many; %v", fewer, none, sizes)
	}
}

func TestP20SampledOfManyStates(t *testing.T) {
	rng := rand.New(rand.NewSource(2))
	for range 15 {
		d := wildDfa(rng, 1+rng.Intn(200), 1+rng.Intn(3), rng.Intn(20))
		shrinks(t, d, plainMinimal(d, twins(d), byPairs(d, twins(d))))
		d = plainDfa(rng, 100+rng.Intn(101), 2+rng.Intn(3), rng.Intn(2), 1+rng.Intn(4))
		shrinks(t, d, plainMinimal(d, twins(d), byPairs(d, twins(d))))
	}
}

func TestP20AsManyAsThereMayBe(t *testing.T) {
	for _, n := range []int{1, 2, 3, 63, 64, 65, 127, 128, 129, 198, 199, 200} {
		shrinks(t, chain(n), chain(n)) // only the whole text tells the first two apart
	}
	for _, n := range []int{21, 42, 189} {
		tags := make([]int, n)
		for i := range tags {
			tags[i] = i%21 - 1
		}
		shrinks(t, ring(tags...), ring(tags[:21]...))
	}
	tags := make([]int, 200)
	shrinks(t, ring(tags...), ring(0))
	tags[199] = 1
	shrinks(t, ring(tags...), ring(tags...))
	tags[99] = 1
	shrinks(t, ring(tags...), ring(tags[:100]...))
	for n := range 7 { // a text with an a so many bytes ahead of the last one: a state for each of what these may be
		d := madeOf(t, "(a|b)*a"+strings.Repeat("[ab]", n))
		if m, err := small.Minimal(d); err != api.OK || len(m.Rows) != 1<<(n+1) || len(d.Rows) != 1+1<<(n+1) {
			t.Errorf("of %d states there are %d, %d, not %d", len(d.Rows), len(m.Rows), err, 1<<(n+1))
		}
	}
}

// grown does what m does, with so many states: some that are one in m, some that lead to no tag, some to which nothing
// leads.
func grown(rng *rand.Rand, m api.Dfa, n int) api.Dfa {
	of := make([]int, n) // of each state: that of m which it is, or -1 if it leads to no tag
	for state := range of {
		of[state] = rng.Intn(len(m.Rows)+1) - 1
	}
	for i, state := range rng.Perm(n - 1)[:len(m.Rows)-1] {
		of[state+1] = i + 1
	}
	of[0] = 0
	are := make([][]int16, len(m.Rows)+1)
	for state, is := range of {
		are[is+1] = append(are[is+1], int16(state))
	}
	are[0] = append(are[0], -1)
	d := idle(n)
	for state, is := range of {
		d.Tags[state] = tagFrom(m, is, "")
		for b := range 256 {
			l := are[step(m, is, b)+1]
			d.Rows[state][b] = l[rng.Intn(len(l))]
		}
	}
	return d
}

// However states are doubled, mixed and added, the smallest one is the same.
func TestP20GrownAutomata(t *testing.T) {
	rng := rand.New(rand.NewSource(3))
	sizes := map[int]int{}
	for range 400 {
		d := plainDfa(rng, 1+rng.Intn(30), 2+rng.Intn(3), rng.Intn(20), 1+rng.Intn(30))
		if rng.Intn(4) == 0 {
			d = wildDfa(rng, 1+rng.Intn(120), 2, rng.Intn(20))
		}
		twin := twins(d)
		m := plainMinimal(d, twin, byPairs(d, twin))
		shrinks(t, m, m)
		shrinks(t, grown(rng, m, len(m.Rows)+rng.Intn(20)), m)
		shrinks(t, grown(rng, m, max(len(m.Rows), 200-rng.Intn(3))), m)
		sizes[len(m.Rows)]++
	}
	if len(sizes) < 40 {
		t.Errorf("sizes: %v", sizes)
	}
}

// The tags of texts stay what they are.
func TestP20TagsStay(t *testing.T) {
	texts := textsUpTo(5, "abc")
	for _, rules := range [][]string{{"(a|b)*a", "a*b", "c+"}, {"[ab]+c?", "a", "ab|c"}, {"()", "a[bc]*", "abc"}, {"(aa)*", "(aaa)*", "b.*c"}} {
		d := madeOf(t, rules...)
		m, err := small.Minimal(d)
		if err != api.OK || len(m.Rows) > len(d.Rows) {
			t.Errorf("of %d states %d are made, %d", len(d.Rows), len(m.Rows), err)
		}
		for _, s := range texts {
			want, _ := dfa.Tag(d, s)
			if got, err := dfa.Tag(m, s); err != api.OK || got != want {
				t.Errorf("%q: the tag of %q is %d, %d, not %d", rules, s, got, err, want)
			}
		}
	}
}

func TestP20WrongAutomata(t *testing.T) {
	for _, w := range wrongDfas() {
		if m, err := small.Minimal(w.d); err != w.err || m.Rows != nil || m.Tags != nil {
			t.Errorf("Minimal(%s) = %s, %d, not %d alone", brief(w.d), brief(m), err, w.err)
		}
	}
	d := chain(3) // what is wrong is told though no text leads there
	d.Rows[0]['a'], d.Tags[2] = -1, 20
	if m, err := small.Minimal(d); err != api.ErrArg || m.Rows != nil || m.Tags != nil {
		t.Errorf("%s, %d", brief(m), err)
	}
	if m, err := small.Minimal(chain(200)); err != api.OK || !slices.Equal(m.Tags, chain(200).Tags) {
		t.Errorf("%s, %d", brief(m), err)
	}
}
