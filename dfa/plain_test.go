package dfa_test

import (
	"fmt"
	"math/rand"
	"slices"
	"testing"

	"pushmill/api"
	"pushmill/places"
	"pushmill/rex"
)

// What follows makes places and automata, and reads the chapter otherwise than the program does.

// bytesOf is the class of a text's bytes.
func bytesOf(text string) api.Class {
	var c api.Class
	for _, b := range []byte(text) {
		c[b/64] |= 1 << (b % 64)
	}
	return c
}

// classes has one of the bytes of each text.
func classes(texts ...string) []api.Class {
	var l []api.Class
	for _, s := range texts {
		l = append(l, bytesOf(s))
	}
	return l
}

// rules reads texts as rules.
func rules(t *testing.T, texts ...string) []api.Rex {
	t.Helper()
	var l []api.Rex
	for _, s := range texts {
		r, at, err := rex.Parse(s)
		if err != api.OK {
			t.Fatalf("%q is wrong at %d: %d", s, at, err)
		}
		l = append(l, r)
	}
	return l
}

// posn is the places of texts of rules.
func posn(t *testing.T, texts ...string) api.Posn {
	t.Helper()
	p, err := places.Make(rules(t, texts...))
	if err != api.OK {
		t.Fatalf("places.Make(%q): %d", texts, err)
	}
	return p
}

// line is so many places of one rule, all of the byte a, one behind the other.
func line(n int) api.Posn {
	p := api.Posn{Empty: []bool{false}}
	for place := range n {
		p.Classes = append(p.Classes, bytesOf("a"))
		p.Rules = append(p.Rules, 0)
		p.Follow = append(p.Follow, nil)
		p.Last = append(p.Last, place == n-1)
		if place > 0 {
			p.Follow[place-1] = []int{place}
		}
	}
	if n > 0 {
		p.First = []int{0}
	}
	return p
}

// fan is so many places of one rule, with which a text may begin and end, each of a byte of its own.
func fan(n int) api.Posn {
	p := line(n)
	p.First, p.Follow = numbersBelow(n), make([][]int, n)
	for place := range n {
		p.Classes[place] = bytesOf(string([]byte{byte(place)}))
		p.Last[place] = true
	}
	return p
}

// crowd is so many places of the bytes a and z, of one rule, each of which may come behind each.
func crowd(n int) api.Posn {
	p := line(n)
	p.First = numbersBelow(n)
	for place := range n {
		p.Classes[place] = bytesOf("az")
		p.Follow[place] = numbersBelow(n)
	}
	return p
}

// numbersBelow has the numbers from 0 to n less 1.
func numbersBelow(n int) []int {
	l := make([]int, n)
	for i := range l {
		l[i] = i
	}
	return l
}

// joined is the places of p and, behind them, those of q, with the rules of q behind those of p.
func joined(p, q api.Posn) api.Posn {
	places, rules := len(p.Classes), len(p.Empty)
	moved := func(l []int, by int) []int {
		l = slices.Clone(l)
		for i := range l {
			l[i] += by
		}
		return l
	}
	p.Classes = slices.Concat(p.Classes, q.Classes)
	p.Rules = slices.Concat(p.Rules, moved(q.Rules, rules))
	p.First = slices.Concat(p.First, moved(q.First, places))
	p.Follow = slices.Clone(p.Follow)
	for _, l := range q.Follow {
		p.Follow = append(p.Follow, moved(l, places))
	}
	p.Last = slices.Concat(p.Last, q.Last)
	p.Empty = slices.Concat(p.Empty, q.Empty)
	return p
}

// wildPosn has so many places, each with few or many behind it, and is right, though seldom such that places.Make would
// make it.
func wildPosn(rng *rand.Rand, n, behind int) api.Posn {
	p := api.Posn{Empty: make([]bool, 1+rng.Intn(20))}
	for rule := range p.Empty {
		p.Empty[rule] = rng.Intn(8) == 0
	}
	some := func() []int {
		var l []int
		for place := range n {
			if rng.Intn(n) < behind {
				l = append(l, place)
			}
		}
		return l
	}
	p.First = some()
	for range n {
		p.Classes = append(p.Classes, bytesOf([]string{"", "a", "b", "ab", "\x00\x3f\x40", "\x7f\x80\xffa"}[rng.Intn(6)]))
		p.Rules = append(p.Rules, rng.Intn(len(p.Empty)))
		p.Follow = append(p.Follow, some())
		p.Last = append(p.Last, rng.Intn(3) == 0)
	}
	return p
}

// wildTree has so many nodes or some less; most of its leaves are classes.
func wildTree(rng *rand.Rand, nodes int) api.Rex {
	switch {
	case nodes < 2 && rng.Intn(15) == 0:
		return api.Rex{Kind: api.RNone}
	case nodes < 2 && rng.Intn(5) == 0:
		return api.Rex{Kind: api.REmpty}
	case nodes < 2:
		return api.Rex{Kind: api.RByte, Class: bytesOf([]string{"a", "b", "ab", "abc", "\x00\x3f\x40\x7f\x80\xbf\xc0\xff", "\xffa"}[rng.Intn(6)])}
	case nodes == 2 || rng.Intn(4) == 0:
		return api.Rex{Kind: api.RStar, Kids: []api.Rex{wildTree(rng, nodes-1)}}
	}
	left := 1 + rng.Intn(nodes-2)
	kids := []api.Rex{wildTree(rng, left), wildTree(rng, nodes-1-left)}
	return api.Rex{Kind: []int{api.RCat, api.RCat, api.RAlt}[rng.Intn(3)], Kids: kids}
}

// wildRules has up to most rules that rex.Check lets pass, of so many nodes at the most.
func wildRules(rng *rand.Rand, most, nodes int) []api.Rex {
	var l []api.Rex
	for range 1 + rng.Intn(most) {
		if r := wildTree(rng, 1+rng.Intn(nodes)); rex.Check(r) == api.OK {
			l = append(l, r)
		}
	}
	if len(l) == 0 {
		return []api.Rex{{Kind: api.REmpty}}
	}
	return l
}

// wildText has n bytes, most of them often in classes.
func wildText(rng *rand.Rand, n int) string {
	l := make([]byte, n)
	for i := range l {
		l[i] = "aaabbc\x00\x3f\x40\x7f\x80\xff"[rng.Intn(12)]
	}
	return string(l)
}

// textsUpTo has all texts of up to n of the bytes of alphabet.
func textsUpTo(n int, alphabet string) []string {
	all := []string{""}
	longest := all
	for range n {
		var longer []string
		for _, s := range longest {
			for i := range len(alphabet) {
				longer = append(longer, s+alphabet[i:i+1])
			}
		}
		all = append(all, longer...)
		longest = longer
	}
	return all
}

// idle is an automaton of so many states in which no byte leads anywhere, and none has a tag.
func idle(n int) api.Dfa {
	d := api.Dfa{Rows: make([]api.Row, n), Tags: make([]int, n)}
	for state := range n {
		d.Tags[state] = -1
		for b := range 256 {
			d.Rows[state][b] = -1
		}
	}
	return d
}

// ring is an automaton of so many states in which each byte leads to the next one, from the last one to the beginning.
func ring(n int) api.Dfa {
	d := idle(n)
	for state := range n {
		d.Tags[state] = state%21 - 1
		for b := range 256 {
			d.Rows[state][b] = int16((state + 1) % n)
		}
	}
	return d
}

// wildDfa has so many states, and is right; one byte of holes leads nowhere.
func wildDfa(rng *rand.Rand, n, holes int) api.Dfa {
	d := idle(n)
	for state := range n {
		d.Tags[state] = rng.Intn(21) - 1
		for b := range 256 {
			if rng.Intn(holes) > 0 {
				d.Rows[state][b] = int16(rng.Intn(n))
			}
		}
	}
	return d
}

// same: are these the same?
func same(a, b api.Dfa) bool {
	return slices.Equal(a.Rows, b.Rows) && slices.Equal(a.Tags, b.Tags)
}

// show is anything for a message, cut off where it is long.
func show(x any) string {
	s := fmt.Sprintf("%+v", x)
	return s[:min(len(s), 600)]
}

// brief is an automaton for a message: tags, and of each state the bytes that lead somewhere; cut off where it is long.
func brief(d api.Dfa) string {
	s := show(d.Tags)
	for state, row := range d.Rows {
		s += fmt.Sprintf("; %d:", state)
		for b, to := range row {
			if to != -1 {
				s += fmt.Sprintf(" %d>%d", b, to)
			}
			if len(s) > 600 {
				return s[:600]
			}
		}
	}
	return s
}

// plainCheck is what Check should answer.
func plainCheck(d api.Dfa) api.Errno {
	n := len(d.Rows)
	if n > 200 {
		return api.ErrLarge
	}
	right := n > 0 && n == len(d.Tags)
	for _, row := range d.Rows {
		right = right && int(slices.Min(row[:])) >= -1 && int(slices.Max(row[:])) <= n-1
	}
	for _, tag := range d.Tags {
		right = right && -1 <= tag && tag <= 19
	}
	if !right {
		return api.ErrArg
	}
	return api.OK
}

// plainRun is what Run should answer of a d that is right, and a short s. It is asked from the end of s on.
func plainRun(d api.Dfa, s string) int {
	if s == "" {
		return 0
	}
	before := plainRun(d, s[:len(s)-1])
	if before == -1 {
		return -1
	}
	return int(d.Rows[before][s[len(s)-1]])
}

// plainTag is what Tag should answer where Run answers state.
func plainTag(d api.Dfa, state int) int {
	return append([]int{-1}, d.Tags...)[state+1]
}

// twins tells of each byte the least one that no class of p tells from it.
func twins(p api.Posn) [256]int {
	var least [256]int
	seen := map[string]int{}
	for b := range 256 {
		key := make([]byte, len(p.Classes))
		for place, c := range p.Classes {
			key[place] = byte(c[b/64] >> (b % 64) & 1)
		}
		if _, again := seen[string(key)]; !again {
			seen[string(key)] = b
		}
		least[b] = seen[string(key)]
	}
	return least
}

// strangers: each byte is a twin of itself alone, whatever the classes are.
func strangers() [256]int {
	return [256]int(numbersBelow(256))
}

// byTexts is what Make should answer of a p that is right, read as the chapter says it: of each state there is a text
// that leads to it, and package places is asked of that text, and of it with a byte behind it. A byte that is not its
// own twin leads where its twin does.
func byTexts(p api.Posn, twin [256]int) (api.Dfa, api.Errno) {
	var d api.Dfa
	texts := []string{""}
	numbers := map[string]int{"[]": -1}
	for state := 0; state < len(texts); state++ {
		var row api.Row
		for b := range 256 {
			if twin[b] != b {
				row[b] = row[twin[b]]
				continue
			}
			s := texts[state] + string([]byte{byte(b)})
			at, err := places.Run(p, s)
			if err != api.OK {
				return api.Dfa{}, err
			}
			key := fmt.Sprint(at)
			if _, again := numbers[key]; !again {
				numbers[key] = len(texts)
				texts = append(texts, s)
			}
			if len(texts) > 200 {
				return api.Dfa{}, api.ErrStates
			}
			row[b] = int16(numbers[key])
		}
		d.Rows = append(d.Rows, row)
		done, _ := places.Rules(p, texts[state])
		d.Tags = append(d.Tags, append(done, -1)[0])
	}
	return d, api.OK
}
