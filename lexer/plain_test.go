package lexer_test

import (
	"fmt"
	"math/rand"
	"slices"
	"testing"

	"pushmill/api"
	"pushmill/dfa"
	"pushmill/lexer"
	"pushmill/places"
	"pushmill/rex"
	"pushmill/small"
)

// What follows makes automata, and reads the chapter otherwise than the program does.

// way of an automaton: the bytes of a text lead from a state to another.
type way struct {
	from  int
	bytes string
	to    int
}

// built is an automaton with those tags and ways, and no others, with a column for each byte.
func built(tags []int, ways ...way) api.Packed {
	p := api.Packed{Next: make([][]int, len(tags)), Tags: tags}
	for b := range p.Of {
		p.Of[b] = uint8(b)
	}
	for state := range tags {
		p.Next[state] = slices.Repeat([]int{-1}, 256)
	}
	for _, w := range ways {
		for _, b := range []byte(w.bytes) {
			p.Next[w.from][b] = w.to
		}
	}
	return p
}

// ring is an automaton with one column, in which each byte leads to the next state, from the last one to the beginning.
func ring(tags ...int) api.Packed {
	p := api.Packed{Next: make([][]int, len(tags)), Tags: tags}
	for state := range tags {
		p.Next[state] = []int{(state + 1) % len(tags)}
	}
	return p
}

// every is a text of all bytes.
func every() string {
	l := make([]byte, 256)
	for b := range l {
		l[b] = byte(b)
	}
	return string(l)
}

// rulesOf reads texts of rules.
func rulesOf(t *testing.T, texts ...string) []api.Rex {
	t.Helper()
	var rules []api.Rex
	for _, s := range texts {
		r, at, err := rex.Parse(s)
		if err != api.OK {
			t.Fatalf("%q is wrong at %d: %d", s, at, err)
		}
		rules = append(rules, r)
	}
	return rules
}

// madeOf is the automaton that the packages below make of rules.
func madeOf(t *testing.T, rules []api.Rex) api.Packed {
	t.Helper()
	posn, err := places.Make(rules)
	if err != api.OK {
		t.Fatalf("places.Make: %d", err)
	}
	d, err := dfa.Make(posn)
	if err != api.OK {
		t.Fatalf("dfa.Make: %d", err)
	}
	d, err = small.Minimal(d)
	if err != api.OK {
		t.Fatalf("small.Minimal: %d", err)
	}
	p, err := small.Pack(d)
	if err != api.OK {
		t.Fatalf("small.Pack: %d", err)
	}
	return p
}

// ofFewStates goes through all automata of n states with the bytes a and b (all others lead nowhere), and tags from -1
// to most.
func ofFewStates(n, most int, each func(p api.Packed)) {
	p := api.Packed{Next: make([][]int, n), Tags: make([]int, n)}
	p.Of['a'], p.Of['b'] = 1, 2
	for i := range pow(n+1, 2*n) {
		for state := range n {
			p.Next[state] = []int{-1, i/pow(n+1, 2*state)%(n+1) - 1, i/pow(n+1, 2*state+1)%(n+1) - 1}
		}
		for j := range pow(most+2, n) {
			for state := range n {
				p.Tags[state] = j/pow(most+2, state)%(most+2) - 1
			}
			each(p)
		}
	}
}

// pow is n, k times by itself.
func pow(n, k int) int {
	product := 1
	for range k {
		product *= n
	}
	return product
}

// wildPacked is right, and has so many states and columns; one number of holes is -1, one tag of rare is not.
func wildPacked(rng *rand.Rand, n, columns, holes, rare int) api.Packed {
	p := api.Packed{Next: make([][]int, n), Tags: make([]int, n)}
	for b := range p.Of {
		p.Of[b] = uint8(rng.Intn(columns))
	}
	for state := range n {
		p.Tags[state] = -1
		if rng.Intn(rare) == 0 {
			p.Tags[state] = rng.Intn(20)
		}
		for range columns {
			to := -1
			if rng.Intn(holes) > 0 {
				to = rng.Intn(n)
			}
			p.Next[state] = append(p.Next[state], to)
		}
	}
	return p
}

// wildText has so many bytes, of those of the alphabet.
func wildText(rng *rand.Rand, n int, alphabet string) string {
	l := make([]byte, n)
	for i := range l {
		l[i] = alphabet[rng.Intn(len(alphabet))]
	}
	return string(l)
}

// textsUpTo has all texts of up to n of the bytes of alphabet.
func textsUpTo(n int, alphabet string) []string {
	all := []string{""}
	longest := all
	for range n {
		var longer []string
		for _, s := range longest {
			for i := range len(alphabet) {
				longer = append(longer, s+alphabet[i:i+1])
			}
		}
		all = append(all, longer...)
		longest = longer
	}
	return all
}

// show is anything for a message, cut off where it is long.
func show(x any) string {
	s := fmt.Sprintf("%+v", x)
	return s[:min(len(s), 600)]
}

// brief is an automaton for a message: tags, and of each state the bytes that lead somewhere; cut off where it is long.
func brief(p api.Packed) string {
	s := show(p.Tags)
	for state, next := range p.Next {
		s += fmt.Sprintf("; %d:", state)
		for b, c := range p.Of {
			if int(c) < len(next) && next[c] != -1 {
				s += fmt.Sprintf(" %d>%d", b, next[c])
			}
			if len(s) > 600 {
				return s[:600]
			}
		}
	}
	return s
}

// tagger tells the tag of a text, -1 if it has none.
type tagger func(s string) int

// byUnpack tells tags as the chapter names them: of the automaton that Unpack answers.
func byUnpack(t *testing.T, p api.Packed) tagger {
	t.Helper()
	d, err := small.Unpack(p)
	if err != api.OK {
		t.Fatalf("Unpack(%s): %d", brief(p), err)
	}
	return func(s string) int {
		tag, _ := dfa.Tag(d, s)
		return tag
	}
}

// bySteps tells tags by the numbers of p itself, as that of Unpack takes long for many states.
func bySteps(p api.Packed) tagger {
	return func(s string) int {
		state := 0
		for _, b := range []byte(s) {
			if state != -1 {
				state = p.Next[state][p.Of[b]]
			}
		}
		if state == -1 {
			return -1
		}
		return p.Tags[state]
	}
}

// byRules tells the least rule that matches a text, and needs no automaton.
func byRules(rules []api.Rex) tagger {
	return func(s string) int {
		return slices.IndexFunc(rules, func(r api.Rex) bool {
			is, _ := rex.Matches(r, s)
			return is
		})
	}
}

// plainOne is what One should answer where all is right: beginnings are tried from the longest one on.
func plainOne(tag tagger, s string, from int) (api.Token, bool) {
	for to := len(s); to > from; to-- {
		if rule := tag(s[from:to]); rule != -1 {
			return api.Token{Rule: rule, From: from, To: to}, true
		}
	}
	return api.Token{}, false
}

// plainLex is what Lex should answer of what s has from a place on, where all is right.
func plainLex(tag tagger, s string, from int) ([]api.Token, int, api.Errno) {
	if from == len(s) {
		return nil, 0, api.OK
	}
	first, is := plainOne(tag, s, from)
	if !is {
		return nil, from, api.ErrLex
	}
	more, at, err := plainLex(tag, s, first.To)
	return append([]api.Token{first}, more...), at, err
}

// one: does One answer that token?
func one(t *testing.T, p api.Packed, s string, from int, want api.Token) {
	t.Helper()
	if token, is, err := lexer.One(p, s, from); token != want || !is || err != api.OK {
		t.Errorf("One(%s, %.40q of %d, %d) = %v, %t, %d, not %v", brief(p), s, len(s), from, token, is, err, want)
	}
}

// noOne: does One answer that there is none?
func noOne(t *testing.T, p api.Packed, s string, from int) {
	t.Helper()
	if token, is, err := lexer.One(p, s, from); token != (api.Token{}) || is || err != api.OK {
		t.Errorf("One(%s, %.40q of %d, %d) = %v, %t, %d, not none", brief(p), s, len(s), from, token, is, err)
	}
}

// oneFails: does One answer that error, and nothing else?
func oneFails(t *testing.T, p api.Packed, s string, from int, want api.Errno) {
	t.Helper()
	if token, is, err := lexer.One(p, s, from); token != (api.Token{}) || is || err != want {
		t.Errorf("One(%s, %.40q of %d, %d) = %v, %t, %d, not %d alone", brief(p), s, len(s), from, token, is, err, want)
	}
}

// lex: does Lex answer these tokens, that place and that error?
func lex(t *testing.T, p api.Packed, s string, want []api.Token, place int, wrong api.Errno) {
	t.Helper()
	if l, at, err := lexer.Lex(p, s); !slices.Equal(l, want) || at != place || err != wrong {
		t.Errorf("Lex(%s, %.40q of %d) = %s, %d, %d, not %s, %d, %d", brief(p), s, len(s), show(l), at, err, show(want), place, wrong)
	}
}

// lexFails: does Lex answer that error, and nothing else?
func lexFails(t *testing.T, p api.Packed, s string, want api.Errno) {
	t.Helper()
	lex(t, p, s, nil, 0, want)
}

// agrees: do One, at each place, and Lex answer what the plain reading does?
func agrees(t *testing.T, tag tagger, p api.Packed, s string) {
	t.Helper()
	for from := range len(s) + 1 {
		if want, is := plainOne(tag, s, from); is {
			one(t, p, s, from, want)
		} else {
			noOne(t, p, s, from)
		}
	}
	lexAgrees(t, tag, p, s)
}

// lexAgrees: does Lex answer what the plain reading does?
func lexAgrees(t *testing.T, tag tagger, p api.Packed, s string) {
	t.Helper()
	want, at, err := plainLex(tag, s, 0)
	lex(t, p, s, want, at, err)
}

// cut is tokens of one rule each, one behind the other, with so many bytes each.
func cut(rules, lengths []int) []api.Token {
	var l []api.Token
	at := 0
	for i, n := range lengths {
		l = append(l, api.Token{Rule: rules[i], From: at, To: at + n})
		at += n
	}
	return l
}

// faults has what makes an automaton of some states and columns a wrong one.
func faults() []func(p *api.Packed) {
	return []func(p *api.Packed){
		func(p *api.Packed) { p.Tags = p.Tags[1:] },
		func(p *api.Packed) { p.Tags = append(p.Tags, 0) },
		func(p *api.Packed) { p.Tags = nil },
		func(p *api.Packed) { p.Tags[0] = -2 },
		func(p *api.Packed) { p.Tags[len(p.Tags)-1] = 20 },
		func(p *api.Packed) { p.Next[0] = nil },
		func(p *api.Packed) { p.Next[len(p.Next)-1] = make([]int, 257) },
		func(p *api.Packed) { p.Next[0][0] = -2 },
		func(p *api.Packed) { p.Next[len(p.Next)-1][len(p.Next[0])-1] = len(p.Next) },
		func(p *api.Packed) { p.Of[0] = 255 },
		func(p *api.Packed) { p.Of[255] = uint8(len(p.Next[0])) },
	}
}

// wrongPacked is an automaton that small.Check refuses, with what it answers.
type wrongPacked struct {
	p   api.Packed
	err api.Errno
}

// wrongOnes has some of no and few states, and some at the edge of too many; those with a fault have two columns, of
// which no byte has the second one.
func wrongOnes() []wrongPacked {
	l := []wrongPacked{{api.Packed{}, api.ErrArg}, {api.Packed{Tags: []int{0}}, api.ErrArg}, {api.Packed{Next: make([][]int, 201)}, api.ErrLarge}}
	for _, n := range []int{1, 2, 199, 200, 201} {
		for _, fault := range append(faults(), func(p *api.Packed) {}) {
			p := ring(make([]int, n)...)
			for state := range n {
				p.Next[state] = append(p.Next[state], -1)
			}
			fault(&p)
			if err := small.Check(p); err != api.OK {
				l = append(l, wrongPacked{p, err})
			}
		}
	}
	return l
}
