package feed_test

import (
	"fmt"
	"math/rand"
	"slices"
	"testing"

	"pushmill/api"
	"pushmill/dfa"
	"pushmill/feed"
	"pushmill/places"
	"pushmill/rex"
	"pushmill/small"
)

// What follows makes automata, and reads the chapter otherwise than the program does.

// way of an automaton: the bytes of a text lead from a state to another.
type way struct {
	from  int
	bytes string
	to    int
}

// built is an automaton with those tags and ways, and no others, with a column for each byte.
func built(tags []int, ways ...way) api.Packed {
	p := api.Packed{Next: make([][]int, len(tags)), Tags: tags}
	for b := range p.Of {
		p.Of[b] = uint8(b)
	}
	for state := range tags {
		p.Next[state] = slices.Repeat([]int{-1}, 256)
	}
	for _, w := range ways {
		for _, b := range []byte(w.bytes) {
			p.Next[w.from][b] = w.to
		}
	}
	return p
}

// ring is an automaton with one column, in which each byte leads to the next state, from the last one to the beginning.
func ring(tags ...int) api.Packed {
	p := api.Packed{Next: make([][]int, len(tags)), Tags: tags}
	for state := range tags {
		p.Next[state] = []int{(state + 1) % len(tags)}
	}
	return p
}

// every is a text of all bytes.
func every() string {
	l := make([]byte, 256)
	for b := range l {
		l[b] = byte(b)
	}
	return string(l)
}

// rulesOf reads texts of rules.
func rulesOf(t *testing.T, texts ...string) []api.Rex {
	t.Helper()
	var rules []api.Rex
	for _, s := range texts {
		r, at, err := rex.Parse(s)
		if err != api.OK {
			t.Fatalf("%q is wrong at %d: %d", s, at, err)
		}
		rules = append(rules, r)
	}
	return rules
}

// madeOf is the automaton that the packages below make of rules.
func madeOf(t *testing.T, rules []api.Rex) api.Packed {
	t.Helper()
	posn, err := places.Make(rules)
	if err != api.OK {
		t.Fatalf("places.Make: %d", err)
	}
	d, err := dfa.Make(posn)
	if err != api.OK {
		t.Fatalf("dfa.Make: %d", err)
	}
	d, err = small.Minimal(d)
	if err != api.OK {
		t.Fatalf("small.Minimal: %d", err)
	}
	p, err := small.Pack(d)
	if err != api.OK {
		t.Fatalf("small.Pack: %d", err)
	}
	return p
}

// ofFewStates goes through all automata of n states with the bytes a and b (all others lead nowhere), and tags from -1
// to most.
func ofFewStates(n, most int, each func(p api.Packed)) {
	p := api.Packed{Next: make([][]int, n), Tags: make([]int, n)}
	p.Of['a'], p.Of['b'] = 1, 2
	for i := range pow(n+1, 2*n) {
		for state := range n {
			p.Next[state] = []int{-1, i/pow(n+1, 2*state)%(n+1) - 1, i/pow(n+1, 2*state+1)%(n+1) - 1}
		}
		for j := range pow(most+2, n) {
			for state := range n {
				p.Tags[state] = j/pow(most+2, state)%(most+2) - 1
			}
			each(p)
		}
	}
}

// pow is n, k times by itself.
func pow(n, k int) int {
	product := 1
	for range k {
		product *= n
	}
	return product
}

// wildPacked is right, and has so many states and columns; one number of holes is -1, one tag of rare is not.
func wildPacked(rng *rand.Rand, n, columns, holes, rare int) api.Packed {
	p := api.Packed{Next: make([][]int, n), Tags: make([]int, n)}
	for b := range p.Of {
		p.Of[b] = uint8(rng.Intn(columns))
	}
	for state := range n {
		p.Tags[state] = -1
		if rng.Intn(rare) == 0 {
			p.Tags[state] = rng.Intn(20)
		}
		for range columns {
			to := -1
			if rng.Intn(holes) > 0 {
				to = rng.Intn(n)
			}
			p.Next[state] = append(p.Next[state], to)
		}
	}
	return p
}

// wildText has so many bytes, of those of the alphabet.
func wildText(rng *rand.Rand, n int, alphabet string) string {
	l := make([]byte, n)
	for i := range l {
		l[i] = alphabet[rng.Intn(len(alphabet))]
	}
	return string(l)
}

// textsUpTo has all texts of up to n of the bytes of alphabet.
func textsUpTo(n int, alphabet string) []string {
	all := []string{""}
	longest := all
	for range n {
		var longer []string
		for _, s := range longest {
			for i := range len(alphabet) {
				longer = append(longer, s+alphabet[i:i+1])
			}
		}
		all = append(all, longer...)
		longest = longer
	}
	return all
}

// show is anything for a message, cut off where it is long.
func show(x any) string {
	s := fmt.Sprintf("%#v", x) // with texts in quotes
	return s[:min(len(s), 600)]
}

// brief is an automaton for a message: tags, and of each state the bytes that lead somewhere; cut off where it is long.
func brief(p api.Packed) string {
	s := show(p.Tags)
	for state, next := range p.Next {
		s += fmt.Sprintf("; %d:", state)
		for b, c := range p.Of {
			if int(c) < len(next) && next[c] != -1 {
				s += fmt.Sprintf(" %d>%d", b, next[c])
			}
			if len(s) > 600 {
				return s[:600]
			}
		}
	}
	return s
}

// runner tells the state that a text leads to, -1 if it leads nowhere.
type runner func(s string) int

// byUnpack tells states as the chapters name them: of the automaton that Unpack answers.
func byUnpack(t *testing.T, p api.Packed) runner {
	t.Helper()
	d, err := small.Unpack(p)
	if err != api.OK {
		t.Fatalf("Unpack(%s): %d", brief(p), err)
	}
	return func(s string) int {
		state, _ := dfa.Run(d, s)
		return state
	}
}

// bySteps tells states by the numbers of p itself, as that of Unpack takes long for many states.
func bySteps(p api.Packed) runner {
	return func(s string) int {
		state := 0
		for _, b := range []byte(s) {
			if state != -1 {
				state = p.Next[state][p.Of[b]]
			}
		}
		return state
	}
}

// plainLongest is how many bytes the longest token has that s begins with, 0 if there is none, and its rule:
// beginnings are tried from the longest one on.
func plainLongest(p api.Packed, run runner, s string) (length, rule int) {
	for n := len(s); n > 0; n-- {
		if state := run(s[:n]); state != -1 && p.Tags[state] != -1 {
			return n, p.Tags[state]
		}
	}
	return 0, -1
}

// plainCertain: how many bytes of s must have come, so that the token at its beginning is certain? More than it has,
// if all of it does not suffice.
func plainCertain(p api.Packed, run runner, s string) int {
	for n := 1; n <= len(s); n++ {
		if state := run(s[:n]); state == -1 || !slices.ContainsFunc(p.Next[state], func(to int) bool { return to != -1 }) {
			return n
		}
	}
	return len(s) + 1
}

// plainFeed is what should be told of a text that has come from a place on, by tokens, not by bytes: in what order
// bytes and tokens came does not count, as a token is certain, or too long, by the 65 bytes from its beginning on.
func plainFeed(p api.Packed, run runner, at int, text string) (api.Held, []api.Token, api.Errno) {
	first := text[:min(len(text), 65)]
	needs := plainCertain(p, run, first)
	if needs > 65 {
		return api.Held{At: at, Over: api.ErrHold}, nil, api.ErrHold
	}
	if needs > len(text) {
		return api.Held{At: at, Buf: text}, nil, api.OK
	}
	length, rule := plainLongest(p, run, first)
	if length == 0 {
		return api.Held{At: at, Over: api.ErrLex}, nil, api.ErrLex
	}
	h, more, err := plainFeed(p, run, at+length, text[length:])
	return h, append([]api.Token{{Rule: rule, From: at, To: at + length}}, more...), err
}

// plainEnd is what should be told when a text ends of which this has come from a place on, and is not told.
func plainEnd(p api.Packed, run runner, at int, text string) (api.Held, []api.Token, api.Errno) {
	if text == "" {
		return api.Held{At: at, Over: api.ErrOver}, nil, api.OK
	}
	length, rule := plainLongest(p, run, text)
	if length == 0 {
		return api.Held{At: at, Over: api.ErrLex}, nil, api.ErrLex
	}
	h, more, err := plainEnd(p, run, at+length, text[length:])
	return h, append([]api.Token{{Rule: rule, From: at, To: at + length}}, more...), err
}

// told is what Feed or End answers.
type told struct {
	h   api.Held
	l   []api.Token
	err api.Errno
}

// is: are these the same? Lists with nothing in them are.
func (a told) is(b told) bool { return a.h == b.h && slices.Equal(a.l, b.l) && a.err == b.err }

// feeds: does Feed answer that? The Held that it answers is told.
func feeds(t *testing.T, p api.Packed, h api.Held, s string, want told) api.Held {
	t.Helper()
	var got told
	if got.h, got.l, got.err = feed.Feed(p, h, s); !got.is(want) {
		t.Errorf("Feed(%s, %s, %.80q of %d) = %s, not %s", brief(p), show(h), s, len(s), show(got), show(want))
	}
	return got.h
}

// ends: does End answer that? The Held that it answers is told.
func ends(t *testing.T, p api.Packed, h api.Held, want told) api.Held {
	t.Helper()
	var got told
	if got.h, got.l, got.err = feed.End(p, h); !got.is(want) {
		t.Errorf("End(%s, %s) = %s, not %s", brief(p), show(h), show(got), show(want))
	}
	return got.h
}

// refused: do Feed and End answer that error, the Held as it was, and nothing else?
func refused(t *testing.T, p api.Packed, h api.Held, s string, want api.Errno) {
	t.Helper()
	feeds(t, p, h, s, told{h, nil, want})
	ends(t, p, h, told{h, nil, want})
}

// pieces cuts s behind each byte whose bit in cuts is 1.
func pieces(s string, cuts int) []string {
	var l []string
	begin := 0
	for i := range max(len(s)-1, 0) {
		if cuts>>i&1 == 1 {
			l = append(l, s[begin:i+1])
			begin = i + 1
		}
	}
	return append(l, s[begin:])
}

// fed is what is told of pieces, one behind the other, up to the one with which all is over; so many are looked at.
func fed(p api.Packed, h api.Held, l ...string) (all told, n int) {
	all.h = h
	for _, s := range l {
		h, more, err := feed.Feed(p, all.h, s)
		all.h, all.l, all.err, n = h, append(all.l, more...), err, n+1
		if err != api.OK {
			break
		}
	}
	return all, n
}

// cut is tokens of one rule each, one behind the other from a place on, with so many bytes each.
func cut(at int, rules, lengths []int) []api.Token {
	var l []api.Token
	for i, n := range lengths {
		l = append(l, api.Token{Rule: rules[i], From: at, To: at + n})
		at += n
	}
	return l
}

// same is tokens of one rule, one behind the other from a place on, with n bytes each.
func same(at, rule, many, n int) []api.Token {
	return cut(at, slices.Repeat([]int{rule}, many), slices.Repeat([]int{n}, many))
}

// faults has what makes an automaton of some states and columns a wrong one.
func faults() []func(p *api.Packed) {
	return []func(p *api.Packed){
		func(p *api.Packed) { p.Tags = p.Tags[1:] },
		func(p *api.Packed) { p.Tags = append(p.Tags, 0) },
		func(p *api.Packed) { p.Tags = nil },
		func(p *api.Packed) { p.Tags[0] = -2 },
		func(p *api.Packed) { p.Tags[len(p.Tags)-1] = 20 },
		func(p *api.Packed) { p.Next[0] = nil },
		func(p *api.Packed) { p.Next[len(p.Next)-1] = make([]int, 257) },
		func(p *api.Packed) { p.Next[0][0] = -2 },
		func(p *api.Packed) { p.Next[len(p.Next)-1][len(p.Next[0])-1] = len(p.Next) },
		func(p *api.Packed) { p.Of[0] = 255 },
		func(p *api.Packed) { p.Of[255] = uint8(len(p.Next[0])) },
	}
}

// wrongPacked is an automaton that small.Check refuses, with what it answers.
type wrongPacked struct {
	p   api.Packed
	err api.Errno
}

// wrongOnes has some of no and few states, and some at the edge of too many; those with a fault have two columns, of
// which no byte has the second one.
func wrongOnes() []wrongPacked {
	l := []wrongPacked{{api.Packed{}, api.ErrArg}, {api.Packed{Tags: []int{0}}, api.ErrArg}, {api.Packed{Next: make([][]int, 201)}, api.ErrLarge}}
	for _, n := range []int{1, 2, 199, 200, 201} {
		for _, fault := range append(faults(), func(p *api.Packed) {}) {
			p := ring(make([]int, n)...)
			for state := range n {
				p.Next[state] = append(p.Next[state], -1)
			}
			fault(&p)
			if err := small.Check(p); err != api.OK {
				l = append(l, wrongPacked{p, err})
			}
		}
	}
	return l
}
