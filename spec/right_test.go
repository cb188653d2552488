package spec_test

import (
	"math"
	"math/rand"
	"slices"
	"testing"

	"pushmill/api"
	"pushmill/small"
	"pushmill/spec"
)

// copied is m in new memory, its lists without spare room.
func copied(m api.Made) api.Made {
	m.Of = slices.Clone(m.Of)
	m.Lexer.Next, m.Lexer.Tags = copiedLists(m.Lexer.Next), slices.Clone(m.Lexer.Tags)
	m.Grammar.Prods = slices.Clone(m.Grammar.Prods)
	for i, p := range m.Grammar.Prods {
		m.Grammar.Prods[i].Body = slices.Clone(p.Body)
	}
	m.Rows = copiedLists(m.Rows)
	m.Table = api.Table{Acts: copiedLists(m.Table.Acts), Goto: copiedLists(m.Table.Goto)}
	return m
}

func copiedLists[T any](l [][]T) [][]T {
	l = slices.Clone(l)
	for i := range l {
		l[i] = slices.Clone(l[i])
	}
	return l
}

// madeOf is what Make makes of s.
func madeOf(t *testing.T, s api.Spec) api.Made {
	t.Helper()
	m, err := spec.Make(s)
	if err != api.OK {
		t.Fatalf("Make(%s): %d", show(s), err)
	}
	return m
}

// right: does Right tell that, as the plain reading does?
func right(t *testing.T, m api.Made, want api.Errno) {
	t.Helper()
	if err := spec.Right(m); err != want {
		t.Fatalf("Right(%s): %d, not %d", show(m), err, want)
	}
	if err := plainRight(m); err != want {
		t.Fatalf("plainly %s: %d, not %d", show(m), err, want)
	}
}

// both are what is made of sums and of rows.
func both(t *testing.T) []api.Made { return []api.Made{madeOf(t, sums()), madeOf(t, rows())} }

func TestP53WhatIsMade(t *testing.T) {
	rng := rand.New(rand.NewSource(6))
	taken := 0
	for range 2000 {
		s := wild(rng, 1+rng.Intn(8), 1+rng.Intn(4), rng.Intn(4), 3)
		if m, err := spec.Make(s); err == api.OK {
			right(t, m, api.OK)
			taken++
		}
	}
	if taken < 200 {
		t.Errorf("only %d are taken", taken)
	}
}

// Any other that has the form is right, too.
func TestP53WhatIsNotMade(t *testing.T) {
	for _, m := range both(t) {
		for name, change := range map[string]func(m *api.Made){
			"one terminal for all":       func(m *api.Made) { clear(m.Of) },
			"none for any":               func(m *api.Made) { m.Of = slices.Repeat([]int{-1}, len(m.Of)) },
			"more words than tags":       func(m *api.Made) { m.Of = append(m.Of, 0, -1, 0) },
			"as many words as there may": func(m *api.Made) { m.Of = make([]int, 20) },
			"no tags":                    func(m *api.Made) { m.Lexer.Tags = slices.Repeat([]int{-1}, len(m.Lexer.Tags)) },
			"a tag where one begins":     func(m *api.Made) { m.Lexer.Tags[0] = len(m.Of) - 1 },
			"more terminals than words": func(m *api.Made) {
				m.Grammar.Terms = 30
				for n := range m.Rows {
					m.Rows[n] = append(m.Rows[n], make([]int, 31-len(m.Rows[n]))...)
					clear(m.Rows[n])
					m.Rows[n][30] = -1
				}
				for n := range m.Table.Acts {
					m.Table.Acts[n] = make([]api.Act, 31)
				}
				if m.Mode == 1 {
					m.Rows[1] = slices.Repeat([]int{-1}, 31)
				}
			},
			"no way": func(m *api.Made) {
				for n := range m.Rows {
					m.Rows[n] = slices.Repeat([]int{-1}, len(m.Rows[n]))
				}
				for n := range m.Table.Acts {
					clear(m.Table.Acts[n])
				}
			},
			"columns nobody has": func(m *api.Made) {
				for n := range m.Lexer.Next {
					m.Lexer.Next[n] = append(m.Lexer.Next[n], 0, -1)
				}
			},
		} {
			n := copied(m)
			change(&n)
			if err := spec.Right(n); err != api.OK {
				t.Errorf("%s: %d", name, err)
			}
			right(t, n, api.OK)
		}
	}
}

// What the other mode has is not looked at.
func TestP53OtherMode(t *testing.T) {
	l := both(t)
	for _, tab := range []api.Table{{}, l[1].Table, {Acts: make([][]api.Act, 300)}, {Acts: [][]api.Act{{{Kind: 9}}}, Goto: [][]int{{-2}}}} {
		m := copied(l[0])
		m.Table = tab
		right(t, m, api.OK)
		m.Mode = 2
		if err := plainRight(m); err == api.OK {
			t.Fatal("by that table it would be right")
		}
		right(t, m, plainRight(m))
	}
	for _, rows := range [][][]int{nil, l[0].Rows, make([][]int, 300), {{-2, -2}}, {{9, 9}}} {
		m := copied(l[1])
		m.Rows = rows
		right(t, m, api.OK)
		m.Mode = 1
		right(t, m, api.ErrArg)
	}
	m := copied(l[1])
	m.Mode, m.Rows = 1, [][]int{{0, 1}}
	right(t, m, api.OK)
}

// faultOf is one way to make m wrong, and the error that comes of it.
type faultOf struct {
	name   string
	want   api.Errno
	change func(m *api.Made)
}

// lexerFaults come first of all.
func lexerFaults() []faultOf {
	return []faultOf{
		{"no lexer", api.ErrArg, func(m *api.Made) { m.Lexer = api.Packed{} }},
		{"too many states", api.ErrLarge, func(m *api.Made) { m.Lexer.Next = make([][]int, 201) }},
		{"a column that is none", api.ErrArg, func(m *api.Made) { m.Lexer.Of[9] = 200 }},
		{"a number that is none", api.ErrArg, func(m *api.Made) { m.Lexer.Next[0][0] = len(m.Lexer.Next) }},
		{"a number below -1", api.ErrArg, func(m *api.Made) { m.Lexer.Next[0][0] = -2 }},
		{"a tag below -1", api.ErrArg, func(m *api.Made) { m.Lexer.Tags[0] = -2 }},
		{"a tag of 20", api.ErrArg, func(m *api.Made) { m.Lexer.Tags[0] = 20 }},
		{"a tag too few", api.ErrArg, func(m *api.Made) { m.Lexer.Tags = m.Lexer.Tags[1:] }},
	}
}

// grammarFaults come as ErrArg, whatever they are by themselves.
func grammarFaults() []faultOf {
	return []faultOf{
		{"no grammar", api.ErrArg, func(m *api.Made) { m.Grammar = api.Grammar{} }},
		{"too many terminals", api.ErrArg, func(m *api.Made) { m.Grammar.Terms = 31 }},
		{"fewer than none", api.ErrArg, func(m *api.Made) { m.Grammar.Terms = -1 }},
		{"too many nonterminals", api.ErrArg, func(m *api.Made) { m.Grammar.Nons = 21 }},
		{"too many productions", api.ErrArg, func(m *api.Made) { m.Grammar.Prods = slices.Repeat(m.Grammar.Prods, 21) }},
		{"too wide a production", api.ErrArg, func(m *api.Made) { m.Grammar.Prods[0].Body = slices.Repeat([]api.Sym{non(0)}, 9) }},
		{"a head that is none", api.ErrArg, func(m *api.Made) { m.Grammar.Prods[0].Head = -1 }},
		{"a symbol that is none", api.ErrArg, func(m *api.Made) { m.Grammar.Prods[0].Body[0].N = 7 }},
	}
}

// wordFaults are those of Of, and of tags that have no word.
func wordFaults() []faultOf {
	return []faultOf{
		{"no words", api.ErrArg, func(m *api.Made) { m.Of = nil }},
		{"an empty list of words", api.ErrArg, func(m *api.Made) { m.Of = []int{} }},
		{"too many words", api.ErrArg, func(m *api.Made) { m.Of = make([]int, 21) }},
		{"a terminal that is none", api.ErrArg, func(m *api.Made) { m.Of[0] = m.Grammar.Terms }},
		{"a terminal far off", api.ErrArg, func(m *api.Made) { m.Of[0] = math.MaxInt }},
		{"a terminal below -1", api.ErrArg, func(m *api.Made) { m.Of[0] = -2 }},
		{"a terminal far below", api.ErrArg, func(m *api.Made) { m.Of[0] = math.MinInt }},
		{"the last one is none", api.ErrArg, func(m *api.Made) { m.Of[len(m.Of)-1] = m.Grammar.Terms }},
		{"fewer words than tags", api.ErrArg, func(m *api.Made) { m.Of = m.Of[1:] }},
		{"a tag without a word", api.ErrArg, func(m *api.Made) { m.Lexer.Tags[0] = len(m.Of) }},
		{"a tag of 19", api.ErrArg, func(m *api.Made) { m.Lexer.Tags[len(m.Lexer.Tags)-1] = 19 }},
	}
}

// modeFaults are those of what the mode asks for.
func modeFaults() []faultOf {
	return []faultOf{
		{"no mode", api.ErrArg, func(m *api.Made) { m.Mode = 0 }},
		{"another mode", api.ErrArg, func(m *api.Made) { m.Mode = 3 }},
		{"a mode below", api.ErrArg, func(m *api.Made) { m.Mode = -1 }},
		{"a mode far off", api.ErrArg, func(m *api.Made) { m.Mode = math.MaxInt }},
		{"the mode of the other", api.ErrArg, func(m *api.Made) { m.Mode = 3 - m.Mode }},
		{"nothing of either", api.ErrArg, func(m *api.Made) { m.Rows, m.Table = nil, api.Table{} }},
	}
}

// faulty is m with some faults; it tells them as well.
func faulty(m api.Made, faults ...faultOf) (api.Made, []string) {
	m = copied(m)
	var names []string
	for _, f := range faults {
		f.change(&m)
		names = append(names, f.name)
	}
	return m, names
}

func TestP53OneFault(t *testing.T) {
	for _, m := range both(t) {
		for _, f := range slices.Concat(lexerFaults(), grammarFaults(), wordFaults(), modeFaults()) {
			n, names := faulty(m, f)
			if err := spec.Right(n); err != f.want {
				t.Errorf("%v: %d, not %d", names, err, f.want)
			}
			right(t, n, f.want)
		}
	}
	m := madeOf(t, sums())
	for _, rows := range [][][]int{{}, m.Rows[:1], append(copiedLists(m.Rows), m.Rows[0]), {{0, -1}, {-1, 2}}, {{0, -1, -1}, {-1, 0, 1}}, {{0, -1, -1}, {-1, 3, 1}}, {{-2, -1, -1}, {-1, 2, 1}}} {
		n := copied(m)
		n.Rows = rows
		right(t, n, api.ErrArg)
	}
	m = madeOf(t, rows())
	for _, c := range []struct {
		want   api.Errno
		change func(t *api.Table)
	}{
		{api.ErrLarge, func(t *api.Table) { t.Acts = make([][]api.Act, 201) }},
		{api.ErrArg, func(t *api.Table) { t.Acts = nil }},
		{api.ErrArg, func(t *api.Table) { t.Goto = t.Goto[1:] }},
		{api.ErrArg, func(t *api.Table) { t.Acts[0][0].N = 4 }},
		{api.ErrArg, func(t *api.Table) { t.Acts[0][0].Kind = 4 }},
		{api.ErrArg, func(t *api.Table) { t.Acts[2][0] = api.Act{Kind: 3} }},
		{api.ErrArg, func(t *api.Table) { t.Goto[0][0] = 4 }},
		{api.ErrArg, func(t *api.Table) { t.Goto[0][0] = -2 }},
	} {
		n := copied(m)
		c.change(&n.Table)
		right(t, n, c.want)
	}
}

// Of two faults the first is told: the lexer's ErrLarge ahead of all, a table's behind all.
func TestP53Order(t *testing.T) {
	later := slices.Concat(grammarFaults(), wordFaults(), modeFaults())
	large := api.Table{Acts: make([][]api.Act, 201)}
	for _, m := range both(t) {
		for _, first := range lexerFaults() {
			for _, second := range later {
				n, _ := faulty(m, second, first)
				right(t, n, small.Check(n.Lexer))
				if first.want == api.ErrLarge {
					right(t, n, api.ErrLarge)
				}
			}
		}
		for _, f := range slices.Concat(grammarFaults(), wordFaults()) {
			n, _ := faulty(m, f)
			n.Mode, n.Table = 2, large
			right(t, n, api.ErrArg)
		}
		n := copied(m)
		n.Mode, n.Table = 2, large
		right(t, n, api.ErrLarge)
		n.Lexer.Tags = n.Lexer.Tags[1:]
		right(t, n, api.ErrArg)
		n.Mode = 3
		right(t, n, api.ErrArg)
	}
}

// odd has numbers at the edges of what may be.
func odd() []int {
	return []int{math.MinInt, -2, -1, -1, 0, 0, 0, 1, 1, 2, 3, 19, 20, 30, 31, 200, math.MaxInt}
}

// anyMade may be right or wrong.
func anyMade(rng *rand.Rand, m api.Made) api.Made {
	m = copied(m)
	number := func(l []int) {
		if len(l) > 0 {
			l[rng.Intn(len(l))] = pick(rng, odd()...)
		}
	}
	for range rng.Intn(4) {
		switch rng.Intn(12) {
		case 0:
			number(m.Of)
		case 1:
			m.Of = slices.Repeat(m.Of, rng.Intn(8))
		case 2:
			number(m.Lexer.Tags)
		case 3:
			number(m.Lexer.Next[rng.Intn(len(m.Lexer.Next))])
		case 4:
			m.Lexer.Of[rng.Intn(256)] = uint8(pick(rng, odd()...))
		case 5:
			m.Grammar.Terms = pick(rng, odd()...)
		case 6:
			m.Grammar.Nons = pick(rng, odd()...)
		case 7:
			m.Grammar.Prods = slices.Repeat(m.Grammar.Prods, rng.Intn(3))
		case 8:
			m.Mode = pick(rng, 1, 2, 2, 1, 0, 3, -1)
		case 9:
			if len(m.Rows) > 0 {
				number(m.Rows[rng.Intn(len(m.Rows))])
			}
		case 10:
			if n := len(m.Table.Acts); n > 0 {
				row := m.Table.Acts[rng.Intn(n)]
				row[rng.Intn(len(row))] = api.Act{Kind: pick(rng, 0, 1, 2, 3, 4), N: pick(rng, odd()...)}
			}
		case 11:
			if n := len(m.Table.Goto); n > 0 {
				number(m.Table.Goto[rng.Intn(n)])
			}
		}
	}
	return m
}

// someMade are many that are right, of both modes.
func someMade(rng *rand.Rand, most int) []api.Made {
	var l []api.Made
	for len(l) < most {
		s := wild(rng, 1+rng.Intn(6), 1+rng.Intn(4), rng.Intn(4), 3)
		m, err := spec.Make(s)
		if err == api.OK && (m.Mode == 2 || len(l)%3 > 0) {
			l = append(l, m)
		}
	}
	return l
}

func TestP53Sampled(t *testing.T) {
	rng := rand.New(rand.NewSource(7))
	counts := map[api.Errno]int{}
	l := someMade(rng, 200)
	for range 60000 {
		m := anyMade(rng, pick(rng, l...))
		want := plainRight(m)
		right(t, m, want)
		counts[want]++
	}
	if counts[api.OK] < 3000 || counts[api.ErrArg] < 3000 {
		t.Errorf("told: %v", counts)
	}
}

// All words of up to three numbers, with all tags of one and two states, of grammars that say nothing, in all modes.
func TestP53AllSmall(t *testing.T) {
	counts := map[api.Errno]int{}
	for _, of := range lists(3, 6) {
		for _, tags := range append(lists(2, 5), []int{-1, 19}, []int{20}) {
			for terms := range 3 {
				for mode := range 4 {
					m := api.Made{Mode: mode, Rows: [][]int{slices.Repeat([]int{-1}, terms+1)}}
					m.Grammar = api.Grammar{Terms: terms, Nons: 1}
					m.Table = api.Table{Acts: [][]api.Act{make([]api.Act, terms+1)}, Goto: [][]int{{-1}}}
					for _, n := range of {
						m.Of = append(m.Of, n-2)
					}
					for _, tag := range tags {
						m.Lexer.Tags = append(m.Lexer.Tags, tag-1)
						m.Lexer.Next = append(m.Lexer.Next, []int{0})
					}
					want := plainRight(m)
					right(t, m, want)
					counts[want]++
				}
			}
		}
	}
	if counts[api.OK] < 1000 || counts[api.ErrArg] < 3000 {
		t.Errorf("told: %v", counts)
	}
}
