package small_test

import (
	"math/rand"
	"strings"
	"testing"

	"pushmill/api"
	"pushmill/dfa"
	"pushmill/small"
)

// differs: does Apart answer that text, whichever of the two comes first?
func differs(t *testing.T, a, b api.Dfa, want string) {
	t.Helper()
	for range 2 {
		if s, is, err := small.Apart(a, b); s != want || !is || err != api.OK {
			t.Errorf("Apart(%s, %s) = %q, %t, %d, not %q", brief(a), brief(b), s, is, err, want)
		}
		a, b = b, a
	}
}

// agrees: does Apart answer that there is no such text?
func agrees(t *testing.T, a, b api.Dfa) {
	t.Helper()
	for range 2 {
		if s, is, err := small.Apart(a, b); s != "" || is || err != api.OK {
			t.Errorf("Apart(%s, %s) = %q, %t, %d: there is none", brief(a), brief(b), s, is, err)
		}
		a, b = b, a
	}
}

// told: does Apart answer so?
func told(t *testing.T, a, b api.Dfa, text string, is bool) {
	t.Helper()
	if is {
		differs(t, a, b, text)
	} else {
		agrees(t, a, b)
	}
}

func TestP21Examples(t *testing.T) {
	differs(t, madeOf(t, "ab*", "a"), madeOf(t, "ab?"), "abb")
	agrees(t, madeOf(t, "ab*", "a"), madeOf(t, "ab*"))
	agrees(t, madeOf(t, "a+"), madeOf(t, "aa*"))
	agrees(t, madeOf(t, "(a|b)*"), madeOf(t, "(a*b*)*"))
	differs(t, madeOf(t, "(a|b)*"), madeOf(t, "a*b*"), "ba")
	differs(t, madeOf(t, "a*"), madeOf(t, "a+"), "")
	differs(t, madeOf(t, "a", "b"), madeOf(t, "b", "a"), "a")
	differs(t, madeOf(t, "(aa)*"), madeOf(t, "(aaa)*"), "aa")
	differs(t, madeOf(t, "[]"), madeOf(t, "xyz"), "xyz")
}

func TestP21TheEmptyTextIsTheShortest(t *testing.T) {
	for p := -1; p < 20; p++ {
		for q := -1; q < 20; q++ {
			told(t, built([]int{p}), built([]int{q}), "", p != q)
			told(t, ring(p), ring(q), "", p != q)
		}
	}
	// It is told as other texts are: with true.
	differs(t, built([]int{-1, 3}, way{0, "a", 1}), built([]int{2, 4}, way{0, "a", 1}), "")
}

// Where no tag is, it is the same whether one is somewhere or nowhere.
func TestP21NowhereHasNoTag(t *testing.T) {
	agrees(t, idle(1), idle(200))
	agrees(t, idle(1), ring(-1))
	agrees(t, ring(-1, -1, -1), ring(-1, -1))
	agrees(t, chain(5), built([]int{-1, -1, -1, -1, 0, -1}, way{0, "a", 1}, way{0, "b", 5}, way{1, "a", 2}, way{2, "a", 3}, way{3, "a", 4}, way{4, "ab", 5}, way{5, "z", 5}))
	for n := 1; n <= 200; n++ {
		differs(t, idle(1), chain(n), strings.Repeat("a", n-1))
		differs(t, ring(-1), chain(n), strings.Repeat("a", n-1))
	}
}

// Of the shortest texts it is the least one, by bytes from the left.
func TestP21TheLeastOfTheShortest(t *testing.T) {
	a := built([]int{-1, -1, -1, 0}, way{0, "m", 1}, way{0, "c", 2}, way{1, "a", 3}, way{2, "x\xff", 3})
	differs(t, a, idle(1), "cx")
	a = built([]int{-1, -1, -1, 0}, way{0, "c", 1}, way{0, "m", 2}, way{1, "\xfe\xff", 3}, way{2, "\x00", 3})
	differs(t, a, idle(1), "c\xfe")
	a = built([]int{-1, 0}, way{0, "\x80\xff", 1})
	differs(t, a, idle(1), "\x80") // a byte is a number from 0 to 255
	a = built([]int{-1, 0}, way{0, "\x7f\x80", 1})
	differs(t, a, idle(1), "\x7f")
	a = built([]int{-1, -1, 0}, way{0, "a", 1}, way{1, "a", 2}, way{0, "z", 2})
	differs(t, a, idle(1), "z") // though "aa" is less
	for b := range 256 {
		text := string([]byte{byte(b)})
		differs(t, built([]int{-1, 0}, way{0, every()[b:], 1}), built([]int{-1, 0}), text)
		differs(t, built([]int{-1, 0}, way{0, every()[b:], 1}), built([]int{-1, 9}, way{0, every()[b:], 1}), text)
		differs(t, built([]int{-1, 7}, way{0, text, 1}, way{1, every(), 1}), built([]int{-1, 7}, way{0, text, 1}), text+"\x00")
	}
}

// All pairs of automata of one and two states.
func TestP21AllOfFewStates(t *testing.T) {
	texts := textsUpTo(4, "ab")
	var l []api.Dfa
	for n := 1; n <= 2; n++ {
		ofFewStates(n, 0, func(d api.Dfa) { l = append(l, copyOf(d)) })
	}
	tags := make([][]int, len(l))
	for i, d := range l {
		for _, s := range texts {
			tags[i] = append(tags[i], tagFrom(d, 0, s))
		}
	}
	longest := 0
	for i, a := range l {
		for j, b := range l {
			at := 0
			for at < len(texts) && tags[i][at] == tags[j][at] {
				at++
			}
			want := append(texts, "")[at]
			s, is, err := small.Apart(a, b)
			if s != want || is != (at < len(texts)) || err != api.OK {
				t.Fatalf("Apart(%s, %s) = %q, %t, %d, not %q", brief(a), brief(b), s, is, err, want)
			}
			longest = max(longest, len(s))
		}
	}
	if longest < 3 {
		t.Errorf("no text is longer than %d", longest)
	}
}

func TestP21Sampled(t *testing.T) {
	rng := rand.New(rand.NewSource(4))
	lengths, none := map[int]int{}, 0
	for range 1500 {
		a := plainDfa(rng, 1+rng.Intn(12), 2+rng.Intn(20), rng.Intn(2), 1+rng.Intn(3))
		b := grown(rng, a, len(a.Rows)+rng.Intn(5))
		if rng.Intn(4) > 0 {
			b.Tags[rng.Intn(len(b.Tags))] = rng.Intn(3) - 1
		}
		if rng.Intn(4) == 0 {
			b.Rows[rng.Intn(len(b.Rows))][rng.Intn(256)] = int16(rng.Intn(len(b.Rows)+1) - 1)
		}
		want, is := plainApart(a, b)
		told(t, a, b, want, is)
		if !is {
			none++
		}
		lengths[len(want)]++
	}
	if none < 200 || len(lengths) < 5 || lengths[2] < 20 {
		t.Errorf("tried: %d without a text, of lengths %v", none, lengths)
	}
}

func TestP21SampledOfManyStates(t *testing.T) {
	rng := rand.New(rand.NewSource(5))
	long := 0
	for range 12 {
		a := plainDfa(rng, 100+rng.Intn(100), 30, 0, 2)
		b := grown(rng, a, len(a.Rows)+rng.Intn(201-len(a.Rows)))
		agrees(t, a, b)
		b.Tags[1+rng.Intn(len(b.Tags)-1)] = 1
		want, is := plainApart(a, b)
		told(t, a, b, want, is)
		long = max(long, len(want))
		b = wildDfa(rng, 200, 300, 0)
		a = grown(rng, b, 200)
		a.Rows[rng.Intn(200)][rng.Intn(256)] = -1
		want, is = plainApart(a, b)
		told(t, a, b, want, is)
	}
	if long < 5 {
		t.Errorf("no text is longer than %d", long)
	}
}

// coils are two rings, of n states and of one more, that agree on all texts of less than 2n-1 bytes: the second time
// round the tag 1 comes a byte later in the greater one.
func coils(n int) (api.Dfa, api.Dfa) {
	tags := make([]int, n+1)
	tags[n-1] = 1
	return ring(tags[:n]...), ring(tags...)
}

func TestP21LongTexts(t *testing.T) {
	for _, n := range []int{2, 3, 10, 50, 198, 199} {
		a, b := coils(n)
		differs(t, a, b, strings.Repeat("\x00", 2*n-1))
		want, is := plainApart(a, b)
		told(t, a, b, want, is)
	}
	whole := ring(append(make([]int, 199), 1)...)
	differs(t, whole, ring(0), strings.Repeat("\x00", 199))
	differs(t, whole, ring(append(make([]int, 198), 1)...), strings.Repeat("\x00", 198))
	differs(t, chain(200), chain(199), strings.Repeat("a", 198))
}

// stepsBy has 200 states without a tag: one byte leads to the next one, from the last one to the beginning, one leads
// nowhere, and all others stay.
func stepsBy(next, lost byte) api.Dfa {
	d := idle(200)
	for state := range 200 {
		for b := range 256 {
			d.Rows[state][b] = int16(state)
		}
		d.Rows[state][next], d.Rows[state][lost] = int16((state+1)%200), -1
	}
	return d
}

// All pairs of states are come to, nowhere included, and no text is found.
func TestP21AllPairsOfManyStates(t *testing.T) {
	agrees(t, stepsBy('a', 'c'), stepsBy('b', 'd'))
	agrees(t, ring(make([]int, 199)...), ring(make([]int, 200)...))
	a, b := stepsBy('a', 'c'), stepsBy('b', 'd')
	for state := range 200 {
		a.Tags[state], b.Tags[state] = 0, 0
	}
	differs(t, a, b, "c")
	for state := range 200 {
		a.Rows[state]['c'], b.Rows[state]['d'] = 0, 0
	}
	agrees(t, a, b)
	b.Tags[199] = 1
	differs(t, a, b, strings.Repeat("b", 199))
}

func TestP21ASmallestOneAgrees(t *testing.T) {
	rng := rand.New(rand.NewSource(6))
	equal := 0
	for range 1500 {
		a := plainDfa(rng, 1+rng.Intn(6), 2+rng.Intn(3), rng.Intn(2), 1+rng.Intn(2))
		b := plainDfa(rng, 1+rng.Intn(6), 2+rng.Intn(3), rng.Intn(2), 1+rng.Intn(2))
		m, _ := small.Minimal(a)
		agrees(t, a, m)
		o, _ := small.Minimal(b)
		s, is, err := small.Apart(a, b)
		if err != api.OK || is == same(m, o) {
			t.Errorf("Apart(%s, %s) = %q, %t, %d", brief(a), brief(b), s, is, err)
		}
		if !is {
			equal++
			continue
		}
		p, _ := dfa.Tag(a, s)
		if q, _ := dfa.Tag(b, s); p == q {
			t.Errorf("Apart(%s, %s) = %q: both have the tag %d", brief(a), brief(b), s, p)
		}
	}
	if equal < 50 {
		t.Errorf("only %d are the same", equal)
	}
}

func TestP21WrongAutomata(t *testing.T) {
	refused := func(a, b api.Dfa, want api.Errno) {
		t.Helper()
		if s, is, err := small.Apart(a, b); s != "" || is || err != want {
			t.Errorf("Apart(%s, %s) = %q, %t, %d, not %d alone", brief(a), brief(b), s, is, err, want)
		}
	}
	l := wrongDfas()
	for _, w := range l {
		refused(w.d, chain(3), w.err)
		refused(chain(3), w.d, w.err)
		refused(w.d, w.d, w.err)
		for _, other := range l {
			refused(w.d, other.d, w.err) // the first one is looked at first
		}
	}
}
