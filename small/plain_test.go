package small_test

import (
	"fmt"
	"math/rand"
	"slices"
	"strings"
	"testing"

	"pushmill/api"
	"pushmill/dfa"
	"pushmill/places"
	"pushmill/rex"
)

// What follows makes automata, and reads the chapter otherwise than the program does.

// idle is an automaton of so many states in which no byte leads anywhere, and none has a tag.
func idle(n int) api.Dfa {
	d := api.Dfa{Rows: make([]api.Row, n), Tags: make([]int, n)}
	for state := range n {
		d.Tags[state] = -1
		for b := range 256 {
			d.Rows[state][b] = -1
		}
	}
	return d
}

// ring is an automaton in which each byte leads to the next state, from the last one to the beginning.
func ring(tags ...int) api.Dfa {
	d := idle(len(tags))
	d.Tags = tags
	for state := range tags {
		for b := range 256 {
			d.Rows[state][b] = int16((state + 1) % len(tags))
		}
	}
	return d
}

// chain is an automaton of so many states in which the byte a leads to the next one; the last one leads nowhere, and
// has the tag 0.
func chain(n int) api.Dfa {
	d := idle(n)
	d.Tags[n-1] = 0
	for state := range n - 1 {
		d.Rows[state]['a'] = int16(state + 1)
	}
	return d
}

// wildDfa has so many states, and is right; one byte of holes leads nowhere, and the tags are from -1 to most.
func wildDfa(rng *rand.Rand, n, holes, most int) api.Dfa {
	d := idle(n)
	for state := range n {
		d.Tags[state] = rng.Intn(most+2) - 1
		for b := range 256 {
			if rng.Intn(holes) > 0 {
				d.Rows[state][b] = int16(rng.Intn(n))
			}
		}
	}
	return d
}

// plainDfa is wildDfa with so few columns that states are often alike.
func plainDfa(rng *rand.Rand, n, holes, most, columns int) api.Dfa {
	d := wildDfa(rng, n, holes, most)
	var of [256]int
	for b := range of {
		of[b] = rng.Intn(columns)
	}
	for state, row := range d.Rows {
		for b := range 256 {
			d.Rows[state][b] = row[of[b]]
		}
	}
	return d
}

// way of an automaton: the bytes of a text lead from a state to another.
type way struct {
	from  int
	bytes string
	to    int16
}

// built is an automaton with those tags and ways, and no others.
func built(tags []int, ways ...way) api.Dfa {
	d := idle(len(tags))
	d.Tags = tags
	for _, w := range ways {
		for _, b := range []byte(w.bytes) {
			d.Rows[w.from][b] = w.to
		}
	}
	return d
}

// every is a text of all bytes.
func every() string {
	l := make([]byte, 256)
	for b := range l {
		l[b] = byte(b)
	}
	return string(l)
}

// madeOf is the automaton that package dfa makes of texts of rules.
func madeOf(t *testing.T, texts ...string) api.Dfa {
	t.Helper()
	var rules []api.Rex
	for _, s := range texts {
		r, at, err := rex.Parse(s)
		if err != api.OK {
			t.Fatalf("%q is wrong at %d: %d", s, at, err)
		}
		rules = append(rules, r)
	}
	p, err := places.Make(rules)
	if err != api.OK {
		t.Fatalf("places.Make(%q): %d", texts, err)
	}
	d, err := dfa.Make(p)
	if err != api.OK {
		t.Fatalf("dfa.Make(%q): %d", texts, err)
	}
	return d
}

// ofFewStates goes through all automata of n states with the bytes a and b, and tags from -1 to most.
func ofFewStates(n, most int, each func(d api.Dfa)) {
	d := idle(n)
	for i := range pow(n+1, 2*n) {
		for cell := range 2 * n {
			d.Rows[cell/2]["ab"[cell%2]] = int16(i/pow(n+1, cell)%(n+1)) - 1
		}
		for j := range pow(most+2, n) {
			for state := range n {
				d.Tags[state] = j/pow(most+2, state)%(most+2) - 1
			}
			each(d)
		}
	}
}

// pow is n, k times by itself.
func pow(n, k int) int {
	product := 1
	for range k {
		product *= n
	}
	return product
}

// copyOf has the same states in other memory.
func copyOf(d api.Dfa) api.Dfa {
	return api.Dfa{Rows: slices.Clone(d.Rows), Tags: slices.Clone(d.Tags)}
}

// same: are these the same?
func same(a, b api.Dfa) bool {
	return slices.Equal(a.Rows, b.Rows) && slices.Equal(a.Tags, b.Tags)
}

// show is anything for a message, cut off where it is long.
func show(x any) string {
	s := fmt.Sprintf("%+v", x)
	return s[:min(len(s), 600)]
}

// brief is an automaton for a message: tags, and of each state the bytes that lead somewhere; cut off where it is long.
func brief(d api.Dfa) string {
	s := show(d.Tags)
	for state, row := range d.Rows {
		s += fmt.Sprintf("; %d:", state)
		for b, to := range row {
			if to != -1 {
				s += fmt.Sprintf(" %d>%d", b, to)
			}
			if len(s) > 600 {
				return s[:600]
			}
		}
	}
	return s
}

// textsUpTo has all texts of up to n of the bytes of alphabet, short ones ahead of long ones, those of one length in
// the order of the alphabet.
func textsUpTo(n int, alphabet string) []string {
	all := []string{""}
	longest := all
	for range n {
		var longer []string
		for _, s := range longest {
			for i := range len(alphabet) {
				longer = append(longer, s+alphabet[i:i+1])
			}
		}
		all = append(all, longer...)
		longest = longer
	}
	return all
}

// tagFrom is the tag behind s of one who begins in a state, or nowhere.
func tagFrom(d api.Dfa, state int, s string) int {
	for i := range len(s) {
		state = step(d, state, int(s[i]))
	}
	if state == -1 {
		return -1
	}
	return d.Tags[state]
}

// twins tells of each byte the least one that leads from each state of each automaton to where it leads.
func twins(l ...api.Dfa) [256]int {
	var least [256]int
	for b := range 256 {
		for !alike(l, b, least[b]) {
			least[b]++
		}
	}
	return least
}

// alike: do two bytes lead from each state of each automaton to the same one?
func alike(l []api.Dfa, b, twin int) bool {
	for _, d := range l {
		for _, row := range d.Rows {
			if row[b] != row[twin] {
				return false
			}
		}
	}
	return true
}

// leasts has the bytes that are their own twins, from the least one on.
func leasts(twin [256]int) []int {
	var l []int
	for b, least := range twin {
		if b == least {
			l = append(l, b)
		}
	}
	return l
}

// byTexts tells whether two states (or -1) have the same tags of all texts that are given.
func byTexts(d api.Dfa, texts []string) func(p, q int) bool {
	tags := func(state int) string {
		var s strings.Builder
		for _, text := range texts {
			s.WriteByte(byte(tagFrom(d, state, text) + 1))
		}
		return s.String()
	}
	of := []string{tags(-1)}
	for state := range d.Rows {
		of = append(of, tags(state))
	}
	return func(p, q int) bool { return of[p+1] == of[q+1] }
}

// byPairs tells whether two states (or -1) have the same tags of all texts: a pair is told apart by its tags, or if a
// byte leads to one that is told apart.
func byPairs(d api.Dfa, twin [256]int) func(p, q int) bool {
	far := distances(d, d, twin)
	return func(p, q int) bool { return far[p+1][q+1] == -1 }
}

// distances tells of each state of a (or -1) and each of b how long the shortest text is that has different tags from
// there on, or -1.
func distances(a, b api.Dfa, twin [256]int) [][]int {
	far := make([][]int, len(a.Rows)+1)
	for p := range far {
		far[p] = make([]int, len(b.Rows)+1)
		for q := range far[p] {
			far[p][q] = -1
			if tagFrom(a, p-1, "") != tagFrom(b, q-1, "") {
				far[p][q] = 0
			}
		}
	}
	bytes := leasts(twin)
	for length, more := 1, true; more; length++ {
		more = false
		for p := range far {
			for q := range far[p] {
				if far[p][q] == -1 && leadsTo(a, b, p-1, q-1, bytes, far, length-1) {
					far[p][q] = length
					more = true
				}
			}
		}
	}
	return far
}

// leadsTo: does one of the bytes lead from two states to two that have that distance?
func leadsTo(a, b api.Dfa, p, q int, bytes []int, far [][]int, want int) bool {
	for _, by := range bytes {
		if far[step(a, p, by)+1][step(b, q, by)+1] == want {
			return true
		}
	}
	return false
}

// step is where a byte leads from a state, or from -1.
func step(d api.Dfa, state, by int) int {
	if state == -1 {
		return -1
	}
	return int(d.Rows[state][by])
}

// plainMinimal is what Minimal should answer of a d that is right, where like tells which states (or -1) have the same
// tags of all texts.
func plainMinimal(d api.Dfa, twin [256]int, like func(p, q int) bool) api.Dfa {
	var m api.Dfa
	states := []int{0} // of each state of m: that of d which is met first
	for len(m.Rows) < len(states) {
		var row api.Row
		state := states[len(m.Rows)]
		for b := range 256 {
			to := int(d.Rows[state][b])
			switch {
			case twin[b] != b:
				row[b] = row[twin[b]]
			case like(to, -1):
				row[b] = -1
			default:
				n := slices.IndexFunc(states, func(s int) bool { return like(s, to) })
				if n == -1 {
					n = len(states)
					states = append(states, to)
				}
				row[b] = int16(n)
			}
		}
		m.Rows = append(m.Rows, row)
		m.Tags = append(m.Tags, d.Tags[state])
	}
	return m
}

// plainApart is what Apart should answer of automata that are right: as many bytes as the distance says, each the least
// one that brings the end nearer.
func plainApart(a, b api.Dfa) (string, bool) {
	twin := twins(a, b)
	far := distances(a, b, twin)
	if far[1][1] == -1 {
		return "", false
	}
	var text []byte
	p, q := 0, 0
	for left := far[1][1]; left > 0; left-- {
		for _, by := range leasts(twin) {
			if far[step(a, p, by)+1][step(b, q, by)+1] == left-1 {
				p, q = step(a, p, by), step(b, q, by)
				text = append(text, byte(by))
				break
			}
		}
	}
	return string(text), true
}

// plainPack is what Pack should answer of a d that is right.
func plainPack(d api.Dfa) api.Packed {
	p := api.Packed{Next: make([][]int, len(d.Rows)), Tags: d.Tags}
	twin := twins(d)
	for c, least := range leasts(twin) {
		for b := range 256 {
			if twin[b] == least {
				p.Of[b] = uint8(c)
			}
		}
		for state, row := range d.Rows {
			p.Next[state] = append(p.Next[state], int(row[least]))
		}
	}
	return p
}

// samePacked: are these the same?
func samePacked(p, q api.Packed) bool {
	return p.Of == q.Of && slices.EqualFunc(p.Next, q.Next, slices.Equal[[]int]) && slices.Equal(p.Tags, q.Tags)
}

// plainPacked is right, and has so many states and columns; some columns may be alike, or nobody's.
func plainPacked(rng *rand.Rand, n, columns int) api.Packed {
	p := api.Packed{Next: make([][]int, n), Tags: make([]int, n)}
	for b := range p.Of {
		p.Of[b] = uint8(rng.Intn(columns))
	}
	for state := range n {
		p.Tags[state] = rng.Intn(21) - 1
		for range columns {
			p.Next[state] = append(p.Next[state], rng.Intn(n+1)-1)
		}
	}
	return p
}

// plainCheck is what Check should answer of a Packed.
func plainCheck(p api.Packed) api.Errno {
	n := len(p.Next)
	if n > 200 {
		return api.ErrLarge
	}
	if n == 0 || n != len(p.Tags) {
		return api.ErrArg
	}
	columns := len(p.Next[0])
	right := columns >= 1 && columns <= 256
	for _, c := range p.Of {
		right = right && int(c) <= columns-1
	}
	for state, l := range p.Next {
		right = right && len(l) == columns && -1 <= p.Tags[state] && p.Tags[state] <= 19
		for _, to := range l {
			right = right && (to == -1 || to >= 0 && to <= n-1)
		}
	}
	if !right {
		return api.ErrArg
	}
	return api.OK
}

// faults has what makes an automaton of some states a wrong one.
func faults() []func(d *api.Dfa) {
	return []func(d *api.Dfa){
		func(d *api.Dfa) { d.Tags = d.Tags[1:] },
		func(d *api.Dfa) { d.Tags = append(d.Tags, 0) },
		func(d *api.Dfa) { d.Tags = nil },
		func(d *api.Dfa) { d.Tags[0] = -2 },
		func(d *api.Dfa) { d.Tags[len(d.Tags)-1] = 20 },
		func(d *api.Dfa) { d.Rows[0][0] = -2 },
		func(d *api.Dfa) { d.Rows[len(d.Rows)-1][255] = int16(len(d.Rows)) },
	}
}

// wrongDfa has automata that dfa.Check refuses, with what it answers.
type wrongDfa struct {
	d   api.Dfa
	err api.Errno
}

// wrongDfas has some of few states, and some at the edge of too many.
func wrongDfas() []wrongDfa {
	l := []wrongDfa{{api.Dfa{}, api.ErrArg}, {api.Dfa{Tags: []int{0}}, api.ErrArg}, {idle(201), api.ErrLarge}, {idle(1000), api.ErrLarge}}
	for _, n := range []int{1, 2, 199, 200, 201} {
		for _, fault := range faults() {
			d := chain(n)
			fault(&d)
			err := api.ErrArg
			if n > 200 {
				err = api.ErrLarge
			}
			l = append(l, wrongDfa{d, err})
		}
	}
	return l
}
