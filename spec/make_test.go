package spec_test

import (
	"fmt"
	"math/rand"
	"slices"
	"strings"
	"testing"

	"pushmill/api"
	"pushmill/count"
	"pushmill/dfa"
	"pushmill/rex"
	"pushmill/small"
	"pushmill/spec"
)

func term(n int) api.Sym { return api.Sym{Kind: api.Term, N: n} }

func non(n int) api.Sym { return api.Sym{Kind: api.Non, N: n} }

func prod(head int, body ...api.Sym) api.Prod { return api.Prod{Head: head, Body: body} }

func TestP52ByLL(t *testing.T) {
	m, err := spec.Make(sums())
	if err != api.OK {
		t.Fatal(err)
	}
	want := api.Made{
		Of:      []int{0, 1, -1},
		Grammar: api.Grammar{Terms: 2, Nons: 2, Prods: []api.Prod{prod(0, term(0), non(1)), prod(1), prod(1, term(1), term(0), non(1))}},
		Mode:    1,
		Rows:    [][]int{{0, -1, -1}, {-1, 2, 1}},
	}
	// Columns: of all others, of a blank, of `+`, of digits; states: the beginning, behind digits, behind `+`, behind a blank.
	want.Lexer.Tags = []int{-1, 2, 1, 0}
	want.Lexer.Next = [][]int{{-1, 1, 2, 3}, {-1, -1, -1, -1}, {-1, -1, -1, -1}, {-1, -1, -1, 3}}
	want.Lexer.Of[' '], want.Lexer.Of['+'] = 1, 2
	for b := '0'; b <= '9'; b++ {
		want.Lexer.Of[b] = 3
	}
	if !sameMade(m, want) || m.Table.Acts != nil || m.Table.Goto != nil {
		t.Errorf("made: %s, not %s", show(m), show(want))
	}
	makes(t, sums(), want)
}

func TestP52ByLR(t *testing.T) {
	want := api.Made{
		Of:      []int{0},
		Grammar: api.Grammar{Terms: 1, Nons: 1, Prods: []api.Prod{prod(0, non(0), term(0)), prod(0, term(0))}},
		Mode:    2,
		Table: api.Table{
			Acts: [][]api.Act{{{Kind: 1, N: 1}, {}}, {{Kind: 2, N: 1}, {Kind: 2, N: 1}}, {{Kind: 1, N: 3}, {Kind: 3}}, {{Kind: 2}, {Kind: 2}}},
			Goto: [][]int{{2}, {-1}, {-1}, {-1}},
		},
	}
	want.Lexer.Tags, want.Lexer.Next, want.Lexer.Of['a'] = []int{-1, 0}, [][]int{{-1, 1}, {-1, -1}}, 1
	makes(t, rows(), want)
}

// Words with names are numbered in order, Heads as they first come.
func TestP52Numbers(t *testing.T) {
	for _, c := range []struct {
		s    api.Spec
		of   []int
		want api.Grammar
	}{
		{said("~: a", "z: b", "~: c", "y: d", "x: e", "~: f", "s = x t", "t = u z", "s = z", "u = y", "t = x"), []int{-1, 0, -1, 1, 2, -1},
			api.Grammar{Terms: 3, Nons: 3, Prods: []api.Prod{prod(0, term(2), non(1)), prod(1, non(2), term(0)), prod(0, term(0)), prod(2, term(1)), prod(1, term(2))}}},
		// Where a name stands in a Body ahead of its rule, that is not where it first comes.
		{said("a: a", "s = u t", "t = a", "u = a"), []int{0},
			api.Grammar{Terms: 1, Nons: 3, Prods: []api.Prod{prod(0, non(2), non(1)), prod(1, term(0)), prod(2, term(0))}}},
		{said("~: a", "s ="), []int{-1}, api.Grammar{Nons: 1, Prods: []api.Prod{prod(0)}}},
		{said("~: a", "~: a", "b: b", "s = b"), []int{-1, -1, 0}, api.Grammar{Terms: 1, Nons: 1, Prods: []api.Prod{prod(0, term(0))}}},
		{said("b: b", "c: c", "s = b"), []int{0, 1}, api.Grammar{Terms: 2, Nons: 1, Prods: []api.Prod{prod(0, term(0))}}}, // a word that no rule has
	} {
		m, err := spec.Make(c.s)
		if err != api.OK || !slices.Equal(m.Of, c.of) || !sameGrammar(m.Grammar, c.want) {
			t.Errorf("Make(%s): %s %d", show(c.s), show(m), err)
		}
		makesPlainly(t, c.s)
	}
}

func TestP52Mode(t *testing.T) {
	for _, c := range []struct {
		s    api.Spec
		mode int
	}{
		{sums(), 1},
		{rows(), 2},
		{said("a: a", "s = a s", "s ="), 1},
		{said("a: a", "b: b", "s = a s b", "s ="), 1},
		{said("a: a", "s = a", "s = a a"), 2},
		{said("a: a", "b: b", "s = a s", "s = a", "s = b"), 2},
		{said("n: n", "p: p", "m: m", "e = e p f", "e = f", "f = f m n", "f = n"), 2},
	} {
		m, err := makesPlainly(t, c.s)
		if m.Mode != c.mode || err != api.OK {
			t.Errorf("Make(%s): %d %d, not %d", show(c.s), m.Mode, err, c.mode)
		}
	}
}

func TestP52Refuses(t *testing.T) {
	for _, c := range []struct {
		s    api.Spec
		want api.Errno
	}{
		{api.Spec{}, api.ErrArg},
		{said("a: a"), api.ErrArg},
		{said("s ="), api.ErrArg},
		{said("~: a", "~: b"), api.ErrArg},
		{said("s = s s", "t ="), api.ErrArg},
		{many(0, 60), api.ErrArg},
		{many(60, 0), api.ErrArg},
		{said("a: a", "s = a", "t = a"), api.ErrForm},
		{said("a: a", "s = a", "t ="), api.ErrForm},
		{said("a: a", "s = a", "t = t"), api.ErrForm},
		{said("a: a", "s = a", "t = s"), api.ErrForm}, // it comes to s, but nothing to it
		{said("a: a", "s = a", "t = u", "u = t", "u = a"), api.ErrForm},
		{said("a: a", "s = s"), api.ErrForm},
		{said("a: a", "s = a s"), api.ErrForm},
		{said("a: a", "s = a", "s = t", "t = a t"), api.ErrForm},
		{said("a: a", "s = a", "s = t", "t = u", "u = t"), api.ErrForm},
		{said("a: a", "s = a", "s = s"), api.ErrClash},
		{said("a: a", "s = a", "s = a"), api.ErrClash},
		{said("~: a", "s =", "s ="), api.ErrClash},
		{said("a: a", "s = s s", "s = a"), api.ErrClash},
		{said("a: a", "b: b", "s = a s", "s = a s b s", "s ="), api.ErrClash},
		{said("a: a", "b: b", "s = a s a", "s = b s b", "s ="), api.ErrClash}, // each word has one tree, but it is not LR(1)
	} {
		makeFails(t, c.s, c.want)
		if _, err := plainMake(c.s); err != c.want {
			t.Errorf("plainly %s: %d", show(c.s), err)
		}
	}
}

// What matches nothing but the empty text, or no text at all, is a word all the same, and has its terminal.
func TestP52OddWords(t *testing.T) {
	for _, source := range []string{"[]", "()", "a*", "[]a"} {
		s := said("a: "+source, "b: b", "s = a", "s = b s")
		m, err := makesPlainly(t, s)
		if err != api.OK || !slices.Equal(m.Of, []int{0, 1}) {
			t.Errorf("of %s: %s %d", source, show(m), err)
		}
	}
}

// wordsOfPlaces are words with so many places, at most 50 a word.
func wordsOfPlaces(places int) []string {
	var l []string
	for left := places; left > 0; left -= 50 {
		n := min(left, 50)
		source := strings.Repeat("a", (n+1)/2)
		if n > 1 {
			source += "|" + strings.Repeat("a", n/2)
		}
		l = append(l, "~: "+source)
	}
	return l
}

// chain are so many Heads, each of which has but the last one the next.
func chain(heads int) []string {
	var l []string
	for i := range heads - 1 {
		l = append(l, fmt.Sprintf("h%c = h%c", 'a'+i, 'a'+i+1))
	}
	return append(l, fmt.Sprintf("h%c =", 'a'+heads-1))
}

func TestP52Bounds(t *testing.T) {
	ok := func(lines ...string) {
		t.Helper()
		if _, err := makesPlainly(t, said(lines...)); err != api.OK {
			t.Fatalf("%q: %d", lines, err)
		}
	}
	fails := func(want api.Errno, lines ...string) {
		t.Helper()
		makeFails(t, said(lines...), want)
		makesPlainly(t, said(lines...))
	}
	skips := func(n int) []string { return slices.Repeat([]string{"~: a"}, n) }
	ok(append(skips(20), "s =")...)
	fails(api.ErrArg, append(skips(21), "s =")...)
	fails(api.ErrArg, append(skips(59), "s =")...)
	ok(append(wordsOfPlaces(200), "s =")...)
	fails(api.ErrLarge, append(wordsOfPlaces(201), "s =")...)
	ok(append(skips(1), chain(20)...)...)
	fails(api.ErrLarge, append(skips(1), chain(21)...)...)
	fails(api.ErrLarge, append(skips(1), append(chain(20), "z =")...)...)
	fails(api.ErrClash, append(skips(1), slices.Repeat([]string{"s ="}, 40)...)...)
	fails(api.ErrLarge, append(skips(1), slices.Repeat([]string{"s ="}, 41)...)...)
	fails(api.ErrLarge, append(skips(1), slices.Repeat([]string{"s ="}, 59)...)...)
	ok("a: a", "s = a a a a a a a a")
	fails(api.ErrLarge, "a: a", "s = a a a a a a a a a")
	fails(api.ErrLarge, "a: a", "s = a", "s = t", "t = t t t t t t t t t t t t t")
	// As many rules as there may be, of as many Heads, each twice.
	var both []string
	for _, line := range chain(20) {
		head, _, _ := strings.Cut(line, " ")
		both = append(both, line, head+" = a "+head)
	}
	ok(append([]string{"a: a"}, both[38:]...)...)
	makesPlainly(t, said(append([]string{"a: a"}, both...)...))
	fails(api.ErrLarge, append([]string{"a: a"}, append(both, "ha = a a")...)...)
}

// some is a regular expression whose automaton has 2 to the power of n states and one more.
func some(n int) string { return "(a|b)*a" + strings.Repeat("(a|b)", n-1) }

func TestP52States(t *testing.T) {
	if _, err := makesPlainly(t, said("~: "+some(7), "s =")); err != api.OK {
		t.Fatal(err)
	}
	makeFails(t, said("~: "+some(8), "s ="), api.ErrStates)
	makeFails(t, said("~: "+some(7), "~: c"+some(7), "s ="), api.ErrStates)
	// Also where the smallest automaton has but a few.
	makeFails(t, said("~: (a|b)*|"+some(8), "s ="), api.ErrStates)
	makeFails(t, said("~: (a|b)*", "~: "+some(8), "s ="), api.ErrStates)
	m, err := makesPlainly(t, said("~: (a|b)*|"+some(7), "s ="))
	if err != api.OK || len(m.Lexer.Tags) != 1 {
		t.Errorf("%s %d", show(m), err)
	}
}

// far is a grammar with a great many states, for which LL(1) does not do: so many signs from the end on one must have known it.
func far(places int) []string {
	l := []string{"s = a s", "s = b s", "s = a fa"}
	for i := range places - 1 {
		for _, word := range []string{"a", "b"} {
			l = append(l, fmt.Sprintf("f%c = %s f%c", 'a'+i, word, 'b'+i))
		}
	}
	return append(l, fmt.Sprintf("f%c =", 'a'+places-1))
}

func TestP52TableErrors(t *testing.T) {
	words := []string{"a: a", "b: b"}
	makeFails(t, said(append(words, far(9)...)...), api.ErrStates)
	makeFails(t, said(append(words, append(far(9), "s = s s")...)...), api.ErrStates)
	if m, err := makesPlainly(t, said(append(words, far(5)...)...)); m.Mode != 2 || err != api.OK {
		t.Error(m.Mode, err)
	}
	makeFails(t, said(append(words, append(far(2), "s = s s")...)...), api.ErrClash)
}

// Of what is wrong the first thing is told, whatever is wrong behind it.
func TestP52Order(t *testing.T) {
	kinds := []struct {
		want         api.Errno
		words, rules []string
	}{
		{api.ErrName, nil, []string{"s = nobody"}},
		{api.ErrArg, slices.Repeat([]string{"~: a"}, 19), nil},
		{api.ErrLarge, wordsOfPlaces(199), nil},
		{api.ErrLarge, nil, []string{"s = a a a a a a a a a"}},
		{api.ErrStates, []string{"~: " + some(8)}, nil},
		{api.ErrForm, nil, []string{"z = a"}},
		{api.ErrStates, nil, far(9)},
		{api.ErrClash, nil, []string{"s = s s", "s = a"}},
	}
	for set := range 1 << len(kinds) {
		words, rules, want := []string{"a: a", "b: b"}, []string{"s = b"}, api.OK
		for i, kind := range slices.Backward(kinds) {
			if set>>i&1 == 1 {
				words, rules, want = append(words, kind.words...), append(rules, kind.rules...), kind.want
			}
		}
		s := said(append(words, rules...)...)
		if len(s.Words)+len(s.Rules) > 60 {
			t.Fatalf("set %d is too large", set)
		}
		if _, err := makesPlainly(t, s); err != want {
			t.Fatalf("set %d: %d, not %d", set, err, want)
		}
	}
}

func TestP52OrderOfTooLarge(t *testing.T) {
	for _, c := range []struct {
		want  api.Errno
		lines []string
	}{
		{api.ErrArg, slices.Repeat([]string{"s ="}, 41)},
		{api.ErrArg, chain(21)},
		{api.ErrArg, []string{"s = s", "s = s s s s s s s s s"}},
		{api.ErrArg, slices.Repeat([]string{"~: a"}, 21)},
		{api.ErrLarge, append([]string{"~: " + some(8)}, slices.Repeat([]string{"s ="}, 41)...)},
		{api.ErrLarge, append([]string{"~: " + some(8)}, chain(21)...)},
		{api.ErrLarge, append([]string{"~: a", "s ="}, append(chain(20), "z =")...)},
		{api.ErrArg, append(slices.Repeat([]string{"~: a"}, 21), chain(21)...)},
		{api.ErrArg, append(slices.Repeat([]string{"~: a"}, 21), "s = s s s s s s s s s")},
	} {
		makeFails(t, said(c.lines...), c.want)
		makesPlainly(t, said(c.lines...))
	}
}

func TestP52Sampled(t *testing.T) {
	rng := rand.New(rand.NewSource(3))
	counts, modes := map[api.Errno]int{}, map[int]int{}
	for range 6000 {
		s := wildOne(rng)
		if rng.Intn(2) == 0 {
			s = wild(rng, 1+rng.Intn(6), 1+rng.Intn(4), rng.Intn(4), 3)
		}
		if rng.Intn(20) == 0 && len(s.Words) > 0 {
			s.Words[rng.Intn(len(s.Words))].Rex = must(some(6 + rng.Intn(3)))
		}
		if rng.Intn(40) == 0 {
			s = spoilt(rng, s)
		}
		m, err := makesPlainly(t, s)
		counts[err]++
		modes[m.Mode]++
	}
	for _, err := range []api.Errno{api.OK, api.ErrArg, api.ErrLarge, api.ErrStates, api.ErrForm, api.ErrClash} {
		if counts[err] < 50 {
			t.Errorf("told: %v", counts)
		}
	}
	if modes[1] < 200 || modes[2] < 200 {
		t.Errorf("modes: %v", modes)
	}
}

// texts are all of up to so many of these bytes.
func texts(most int, of string) []string {
	l := []string{""}
	for from := 0; most > 0; most-- {
		upTo := len(l)
		for _, s := range l[from:upTo] {
			for _, b := range []byte(of) {
				l = append(l, s+string([]byte{b}))
			}
		}
		from = upTo
	}
	return l
}

// The Lexer's tag of a text is the least word that matches it, and there is no automaton with fewer states: no two of its states
// do the same.
func TestP52Lexer(t *testing.T) {
	rng := rand.New(rand.NewSource(4))
	all := texts(4, "abcd0 +")
	for range 150 {
		s := wild(rng, 1+rng.Intn(6), 1, 0, 0)
		m, err := spec.Make(s)
		if err != api.OK {
			t.Fatalf("Make(%s): %d", show(s), err)
		}
		d, err := small.Unpack(m.Lexer)
		if err != api.OK {
			t.Fatal(err)
		}
		for _, text := range all {
			want := slices.IndexFunc(s.Words, func(w api.Word) bool {
				is, _ := rex.Matches(w.Rex, text)
				return is
			})
			if tag, err := dfa.Tag(d, text); tag != want || err != api.OK {
				t.Fatalf("%s: the tag of %q is %d, not %d", show(s), text, tag, want)
			}
		}
		if again, _ := small.Minimal(d); len(again.Rows) != len(d.Rows) {
			t.Fatalf("%s: %d states, not %d", show(s), len(d.Rows), len(again.Rows))
		}
		if again, _ := small.Pack(d); !samePacked(again, m.Lexer) {
			t.Fatalf("%s: not as Pack has it", show(s))
		}
	}
}

// lists are all lists of up to so many numbers below that.
func lists(most, below int) [][]int {
	l := [][]int{nil}
	for from := 0; most > 0; most-- {
		upTo := len(l)
		for _, word := range l[from:upTo] {
			for n := range below {
				l = append(l, append(slices.Clone(word), n))
			}
		}
		from = upTo
	}
	return l
}

// oneTree: has each of these words one tree at most? It tells how many have one.
func oneTree(t *testing.T, s api.Spec, g api.Grammar, words [][]int) int {
	t.Helper()
	had := 0
	for _, word := range words {
		n, err := count.Trees(g, word)
		if n > 1 || err != api.OK {
			t.Fatalf("%s is taken, but %v has %d trees", show(s), word, n)
		}
		had += n
	}
	return had
}

// Each word of what is taken has one tree.
func TestP52OneTree(t *testing.T) {
	for _, of := range []struct {
		words            []string
		heads            []string
		rules, width     int
		longest, atLeast int
	}{
		{[]string{"a: a"}, []string{"s", "t"}, 3, 2, 6, 150},
		{[]string{"a: a", "b: b"}, []string{"s"}, 3, 2, 5, 150},
		{[]string{"a: a", "~: c", "b: b"}, []string{"s", "t"}, 2, 2, 5, 80},
		{[]string{"a: a", "b: b"}, []string{"s"}, 2, 3, 6, 80},
	} {
		base := said(of.words...)
		named, _ := order(base)
		all := lists(of.longest, len(named))
		taken, had := 0, 0
		smallRules(of.rules, of.width, append(named, of.heads...), func(rules []api.Rule) {
			s := api.Spec{Words: base.Words, Rules: rules}
			if plainCheck(s) != api.OK {
				return
			}
			m, err := makesPlainly(t, s)
			if err == api.OK {
				had += oneTree(t, s, m.Grammar, all)
				taken++
			}
		})
		if taken < of.atLeast || had < of.atLeast {
			t.Errorf("of %v: %d are taken, with %d words", of, taken, had)
		}
	}
}

func TestP52OneTreeSampled(t *testing.T) {
	rng := rand.New(rand.NewSource(5))
	taken, had := 0, 0
	for range 4000 {
		s := wild(rng, 1+rng.Intn(3), 1+rng.Intn(4), rng.Intn(4), 4)
		if m, err := spec.Make(s); err == api.OK {
			had += oneTree(t, s, m.Grammar, lists([]int{1, 9, 7, 5}[m.Grammar.Terms], m.Grammar.Terms))
			taken++
		}
	}
	if taken < 300 || had < 1000 {
		t.Errorf("only %d are taken, with %d words", taken, had)
	}
}
