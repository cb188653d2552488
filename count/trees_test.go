package count_test

import (
	"math/rand"
	"slices"
	"testing"

	"pushmill/api"
	"pushmill/cfg"
	"pushmill/count"
	"pushmill/lr"
	"pushmill/trees"
)

func TestP42KnownCounts(t *testing.T) {
	sums := must(t, "3 2\n0: n0 t1 n1\n0: n1\n1: t0\n1: t2 n0\n")
	dangling := must(t, "3 1\n0: t0 n0\n0: t0 n0 t1 n0\n0: t2\n") // if, else, other
	for _, c := range []struct {
		g    api.Grammar
		word string
		want int
	}{
		{pairs(), "", 0}, {pairs(), "0", 1}, {pairs(), "00", 1}, {pairs(), "000", 2}, {pairs(), "0000", 2}, {pairs(), "00000000000000000000", 2},
		{brackets(), "", 1}, {brackets(), "01", 1}, {brackets(), "0011", 1}, {brackets(), "00000000001111111111", 1},
		{brackets(), "0", 0}, {brackets(), "1", 0}, {brackets(), "10", 0}, {brackets(), "0101", 0}, {brackets(), "001", 0}, {brackets(), "00000000011111111111", 0},
		{sums, "0", 1}, {sums, "010", 1}, {sums, "01010", 1}, {sums, "0120102010", 0}, {sums, "012010", 2}, {sums, "20", 1}, {sums, "2010", 2}, {sums, "01", 0}, {sums, "", 0},
		{dangling, "2", 1}, {dangling, "02", 1}, {dangling, "0212", 1}, {dangling, "00212", 2}, {dangling, "0021212", 1}, {dangling, "002", 1}, {dangling, "0012", 0},
		{must(t, "2 1\n0:\n0: t0 n0 t0\n0: t1 n0 t1\n"), "01100110011001100110", 1},
		{must(t, "2 1\n0:\n0: t0 n0 t0\n0: t1 n0 t1\n"), "01100110010110011010", 0},
		{must(t, "2 1\n0:\n0: t0 n0 t0\n0: t1 n0 t1\n"), "011001100110011001100"[:19], 0},
	} {
		counted(t, c.g, word(c.word), c.want)
		if n := plainTrees(c.g, word(c.word)); n != c.want {
			t.Errorf("plainTrees(%v, %s): %d, not %d", c.g, c.word, n, c.want)
		}
	}
}

// What makes a tree once more of itself has trees without end; but only where there is one at all.
func TestP42WithoutEnd(t *testing.T) {
	for _, c := range []struct {
		g, word string
		want    int
	}{
		{"1 1\n0: n0\n", "", 0}, {"1 1\n0: n0\n", "0", 0}, {"1 1\n0: n0 n0\n", "", 0},
		{"1 1\n0: n0\n0:\n", "", 2}, {"1 1\n0: n0\n0: t0\n", "0", 2}, {"1 1\n0: n0\n0: t0\n", "", 0}, {"1 1\n0: n0\n0: t0\n", "00", 0},
		{"1 1\n0: n0 n0\n0:\n", "", 2}, {"1 1\n0: n0 n0\n0: t0\n0:\n", "0", 2}, {"1 1\n0: n0 n0\n0:\n", "0", 0},
		{"1 2\n0: n1\n1: n0\n", "", 0}, {"1 2\n0: n1\n1: n0\n1: t0\n", "0", 2}, {"1 2\n0: n1\n1: n0\n0: t0\n", "0", 2}, {"1 2\n0: n1\n1: n0\n1: t0\n", "", 0},
		{"1 2\n0: n1 n0\n1:\n0: t0\n", "0", 2}, {"1 2\n0: n0 n1\n1:\n0: t0\n", "0", 2}, {"1 2\n0: n1 n0 n1\n1:\n0: t0\n", "0", 2}, {"1 2\n0: n1 n0 n1\n1:\n0: t0\n", "00", 0},
		{"1 2\n0: t0\n0: n1\n1: n1\n", "0", 1},             // n1 makes nothing
		{"1 2\n0: t0\n0: n1\n1: n0 n1\n", "0", 1},          // nor here
		{"1 2\n0: t0\n1: n1\n1: t0\n", "0", 1},             // n1 is never come to
		{"1 2\n0: t0\n0: n1 t0 t0\n1: n1\n1:\n", "0", 1},   // only a longer word has it
		{"1 2\n0: t0\n0: n1 t0 t0\n1: n1\n1:\n", "00", 2},  // this one
		{"1 2\n0: n1 n1\n1: n1 t0\n1: t0\n", "00", 1},      // they grow at their left, but by a terminal each time
		{"1 2\n0: n1 n1\n1: n1 t0\n1: t0\n", "000", 2},     // one way or the other
		{"1 2\n0: n1 t0\n1: n0\n1:\n", "0000", 1},          // once round for each terminal
		{"1 2\n0: n1 t0\n1: n0\n1:\n1: t0\n", "0000", 2},   // or it begins otherwise
		{"1 2\n0: t0 n1\n1: n0\n1:\n", "0000", 1},          // likewise at the right
		{"2 2\n0: n1 t0\n1: n0\n1:\n0: t1\n", "1000", 1},   // it begins with t1 only once
		{"2 2\n0: n1 t0\n1: n0\n1:\n0: t1\n", "0100", 0},   // not behind a t0
		{"1 3\n0: n1 n2\n1: n2\n2: n1\n1:\n", "", 2},       // n1 and n2 make each other
		{"1 3\n0: n1 n2\n1: n2\n2: n1\n1: t0\n", "00", 2},  // likewise
		{"1 3\n0: n1 n2\n1: n2\n2: n1\n1: t0\n", "000", 0}, // there are two of them
	} {
		g := must(t, c.g)
		counted(t, g, word(c.word), c.want)
		if n := plainTrees(g, word(c.word)); n != c.want {
			t.Errorf("plainTrees(%q, %s): %d, not %d", c.g, c.word, n, c.want)
		}
	}
}

// A production that is there twice makes two trees: they differ in its number.
func TestP42ProductionsThatAreThereTwice(t *testing.T) {
	g := must(t, "2 2\n0: t0 n1\n1: t1\n1:\n1: t1\n")
	counted(t, g, word("0"), 1)
	counted(t, g, word("01"), 2)
	counted(t, must(t, "1 1\n0:\n0:\n"), nil, 2)
	counted(t, must(t, "1 2\n0: t0\n1: t0\n"), word("0"), 1)
	counted(t, must(t, "1 2\n0: t0\n1:\n1:\n"), word("0"), 1)
}

// spread has so many trees of the empty word: choices to the power of 8, as often as there are steps.
func spread(choices, steps int) api.Grammar {
	g := grammar(0, steps+1)
	for n := range steps {
		g.Prods = append(g.Prods, prod(n, slices.Repeat([]api.Sym{non(n + 1)}, 8)...))
	}
	return grammar(0, steps+1, append(g.Prods, slices.Repeat([]api.Prod{prod(steps)}, choices)...)...)
}

// However many trees there are, and however great they are, 2 stands for more than one.
func TestP42ManyTrees(t *testing.T) {
	for steps := range 20 {
		has(t, spread(0, steps), nil, 0)
		has(t, spread(1, steps), nil, 1)
		for choices := 2; choices+steps <= 40; choices += 1 + choices/4 {
			has(t, spread(choices, steps), nil, 2)
		}
	}
	wide := grammar(1, 1, prod(0, slices.Repeat([]api.Sym{non(0)}, 8)...), prod(0, term(0)))
	for n := range 21 {
		want := 0
		switch {
		case n == 1 || n == 8:
			want = 1
		case n%7 == 1:
			want = 2
		}
		has(t, wide, make([]int, n), want)
	}
	for n := 3; n <= 20; n++ {
		has(t, pairs(), make([]int, n), 2)
	}
}

// What there is of one piece is not there of another one.
func TestP42ChoicesOfOnePiece(t *testing.T) {
	g := must(t, "2 3\n0: n1 n2\n1: t0\n1: t0 t0\n2: t1\n2: t0 t1\n")
	counted(t, g, word("01"), 1)
	counted(t, g, word("001"), 2)
	counted(t, g, word("0001"), 1)
	counted(t, g, word("00001"), 0)
	h := must(t, "2 3\n0: n1 n2\n1: t0\n1: t0\n2: t1 t1\n")
	counted(t, h, word("01"), 0) // two choices of what comes ahead, none of what is behind
	counted(t, h, word("011"), 2)
}

func TestP42WordsAreBounded(t *testing.T) {
	g := must(t, "2 1\n0: n0 t0\n0:\n")
	for n := range 21 {
		counted(t, g, make([]int, n), 1)
	}
	for _, n := range []int{21, 22, 40, 64, 1 << 20} {
		refused(t, g, make([]int, n), api.ErrLarge)
		refused(t, g, slices.Repeat([]int{2}, n), api.ErrLarge) // this comes ahead of what is no terminal
		refused(t, grammar(0, 1, prod(0)), make([]int, n), api.ErrLarge)
	}
}

func TestP42WhatIsNoTerminal(t *testing.T) {
	for terms := range 31 {
		g := grammar(terms, 1, prod(0))
		for _, n := range edges() {
			for _, at := range []int{0, 1, 10, 19} {
				l := make([]int, at+1)
				if l[at] = n; terms == 0 || n < 0 || n >= terms {
					refused(t, g, l, api.ErrArg)
					refused(t, g, append(l, make([]int, 19-at)...), api.ErrArg)
				} else {
					counted(t, g, l, 0)
				}
			}
		}
		counted(t, g, nil, 1)
	}
	refused(t, grammar(1, 20), word("1"), api.ErrArg) // no nonterminal, either
}

func TestP42WrongGrammars(t *testing.T) {
	for _, c := range []struct {
		g    api.Grammar
		want api.Errno
	}{
		{grammar(-1, 1), api.ErrArg}, {grammar(31, 1, prod(0)), api.ErrArg}, {grammar(1, 0, prod(0)), api.ErrArg}, {grammar(1, 21, prod(0)), api.ErrArg},
		{grammar(1, 1, prod(1)), api.ErrArg}, {grammar(1, 1, prod(0), prod(0, term(1))), api.ErrArg}, {grammar(1, 1, prod(0), prod(0, api.Sym{Kind: 3})), api.ErrArg},
		{grammar(1, 1, prod(0), prod(0, non(1))), api.ErrArg}, {api.Grammar{}, api.ErrArg},
		{grammar(1, 1, slices.Repeat([]api.Prod{prod(0)}, 41)...), api.ErrLarge},
		{grammar(1, 1, prod(0), prod(0, slices.Repeat([]api.Sym{non(0)}, 9)...)), api.ErrLarge},
	} {
		for _, l := range [][]int{nil, {}, {0}, {77}, {-1}, make([]int, 20), make([]int, 21), slices.Repeat([]int{77}, 21)} {
			refused(t, c.g, l, c.want)
		}
	}
}

// Terminals and nonterminals of one number are not the same, and the whole is of the nonterminal 0.
func TestP42SymbolsOfOneNumber(t *testing.T) {
	g := must(t, "2 2\n1: t0\n0: n1\n0: t1\n")
	counted(t, g, word("0"), 1)
	counted(t, g, word("1"), 1)
	counted(t, must(t, "2 2\n1: t0\n0: t1\n"), word("0"), 0)
	counted(t, must(t, "1 1\n0: t0 n0\n0:\n"), word("00"), 1)
	counted(t, must(t, "1 1\n0: n0 t0\n"), word("0"), 0)
}

// The greatest grammar: all its numbers are used.
func TestP42GreatestGrammar(t *testing.T) {
	g := grammar(30, 20)
	for n := range 20 {
		g.Prods = append(g.Prods, prod(n, term(29-n), non((n+1)%20)), prod(n, slices.Repeat([]api.Sym{term(n)}, 8)...))
	}
	l := []int{}
	for n := range 12 {
		l = append(l, 29-n)
	}
	counted(t, g, append(slices.Clone(l), slices.Repeat([]int{12}, 8)...), 1)
	counted(t, g, append(slices.Clone(l), slices.Repeat([]int{11}, 8)...), 0)
	counted(t, g, make([]int, 8), 1)
	wide := grammar(30, 20, slices.Repeat([]api.Prod{prod(0, slices.Repeat([]api.Sym{non(0)}, 8)...)}, 39)...)
	wide.Prods = append(wide.Prods, prod(0, term(29)))
	counted(t, wide, slices.Repeat([]int{29}, 20), 0)
	counted(t, wide, slices.Repeat([]int{29}, 15), 2)
	counted(t, wide, slices.Repeat([]int{29}, 8), 2)
	counted(t, wide, []int{29}, 1)
}

// All trees of up to some number of nodes, counted: none is missed, and of short words none has to be greater to be found.
func TestP42CountsAreThoseOfTrees(t *testing.T) {
	tried, many := 0, 0
	try := func(g api.Grammar, most, longest int) {
		found := counts{}
		for _, x := range allTrees(g, non(0), most) {
			if l := yield(g, x); len(l) <= longest {
				found[text(l)]++
			}
		}
		for _, l := range allWords(g.Terms, longest) {
			n := min(2, found[text(l)])
			counted(t, g, l, n)
			if n == 2 {
				many++
			} else if n == 1 {
				tried++
			}
		}
	}
	small(1, 1, 3, 2, func(g api.Grammar) { try(g, 11, 3) })
	small(2, 1, 2, 2, func(g api.Grammar) { try(g, 10, 3) })
	small(1, 2, 2, 2, func(g api.Grammar) { try(g, 10, 3) })
	small(2, 2, 2, 2, func(g api.Grammar) { try(g, 9, 2) })
	small(1, 2, 3, 2, func(g api.Grammar) { try(g, 10, 1) })
	if tried < 1000 || many < 1000 {
		t.Errorf("only %d words had one tree, %d more", tried, many)
	}
}

// Against the second reading, on all short words of small grammars.
func TestP42AllSmallGrammars(t *testing.T) {
	told := map[int]int{}
	try := func(g api.Grammar, most int) {
		known := treesOf(g, upTo(most))[0]
		for _, l := range allWords(g.Terms, most) {
			n := known[text(l)]
			counted(t, g, l, n)
			told[n]++
		}
	}
	small(1, 1, 3, 2, func(g api.Grammar) { try(g, 6) })
	small(2, 1, 3, 2, func(g api.Grammar) { try(g, 3) })
	small(2, 1, 2, 3, func(g api.Grammar) { try(g, 4) })
	small(2, 2, 2, 2, func(g api.Grammar) { try(g, 4) })
	small(1, 2, 3, 2, func(g api.Grammar) { try(g, 4) })
	small(1, 3, 2, 2, func(g api.Grammar) { try(g, 4) })
	for n := range 3 {
		if told[n] < 5000 {
			t.Errorf("told: %v", told)
		}
	}
}

// someWord is one that a tree yields, or one that differs from it, or any one; of no more than so many terminals.
func someWord(rng *rand.Rand, g api.Grammar, most int) []int {
	x, ok := grown(rng, g, rng.Intn(40))
	if !ok || rng.Intn(8) == 0 {
		return wildWord(rng, g, most)
	}
	l := yield(g, x)
	if len(l) > most {
		return wildWord(rng, g, most)
	}
	if rng.Intn(3) == 0 && len(l) > 0 {
		l[rng.Intn(len(l))] = rng.Intn(g.Terms)
	}
	return l
}

// Against the second reading, on longer words of greater grammars.
func TestP42Samples(t *testing.T) {
	rng := rand.New(rand.NewSource(1))
	told := map[int]int{}
	try := func(g api.Grammar, most int) {
		for range 3 {
			l := someWord(rng, g, most)
			n := plainTrees(g, l)
			counted(t, g, l, n)
			if len(l) > 0 {
				told[n]++
			}
		}
	}
	for range 1500 {
		try(wild(rng, 1+rng.Intn(3), 1+rng.Intn(4), 1+rng.Intn(8), 1+rng.Intn(4), 4+rng.Intn(6)), 8)
	}
	for range 100 {
		try(wild(rng, 1+rng.Intn(4), 1+rng.Intn(6), 1+rng.Intn(15), 1+rng.Intn(8), 6+rng.Intn(4)), 20)
	}
	for n := range 3 {
		if told[n] < 500 {
			t.Errorf("told: %v", told)
		}
	}
}

// A tree that is grown is counted; if it is the only one, it is told, or why it is not.
func TestP42GrownTreesAreCounted(t *testing.T) {
	rng := rand.New(rand.NewSource(2))
	told := map[api.Errno]int{}
	for range 4000 {
		g := wildOne(rng)
		x, ok := grown(rng, g, rng.Intn(60))
		if !ok || len(yield(g, x)) > 20 {
			continue
		}
		l := yield(g, x)
		n, err := count.Trees(g, l)
		if n == 0 || err != api.OK {
			t.Fatalf("Trees(%s, %v): %d %d, but it has %s", show(g), l, n, err, show(x))
		}
		if n == 2 {
			noOnly(t, g, l, api.ErrClash)
			told[api.ErrClash]++
			continue
		}
		if err = trees.Check(g, x); err != api.OK {
			noOnly(t, g, l, err)
		} else {
			only(t, g, l, x)
		}
		told[err]++
	}
	if told[api.OK] < 500 || told[api.ErrClash] < 500 {
		t.Errorf("told: %v", told)
	}
}

// A production that the only tree has is needed, and there twice it makes two; one that it does not have is not missed.
func TestP42WithoutAProductionAndWithOneTwice(t *testing.T) {
	rng := rand.New(rand.NewSource(3))
	needed, others := 0, 0
	for range 2000 {
		g := wild(rng, 1+rng.Intn(8), 1+rng.Intn(10), 2+rng.Intn(30), 1+rng.Intn(8), 3+rng.Intn(7))
		l := someWord(rng, g, 20)
		x, err := count.Only(g, l)
		if err != api.OK {
			continue
		}
		used := uses(x, map[int]int{})
		for n := range g.Prods {
			without := grammar(g.Terms, g.Nons, slices.Delete(slices.Clone(g.Prods), n, n+1)...)
			twice := grammar(g.Terms, g.Nons, append(slices.Clone(g.Prods), g.Prods[n])...)
			if used[n] > 0 {
				needed++
				counted(t, without, l, 0)
				counted(t, twice, l, 2)
			} else {
				others++
				counted(t, without, l, 1)
				counted(t, twice, l, 1)
			}
		}
	}
	if needed < 500 || others < 500 {
		t.Errorf("only %d productions were needed, %d not", needed, others)
	}
}

// Trees may be turned round as words may.
func TestP42Mirrors(t *testing.T) {
	rng := rand.New(rand.NewSource(4))
	told := map[int]int{}
	for range 4000 {
		g := wildOne(rng)
		l := someWord(rng, g, 20)
		n, _ := count.Trees(g, l)
		told[n]++
		round, err := cfg.Mirror(g)
		if err != api.OK {
			t.Fatal(err)
		}
		slices.Reverse(l)
		has(t, round, l, n)
	}
	for n := range 3 {
		if told[n] < 300 {
			t.Errorf("told: %v", told)
		}
	}
}

// A grammar of which a table without a Fight can be made has one tree of each of its words.
func TestP42NoFightNoTwoTrees(t *testing.T) {
	rng := rand.New(rand.NewSource(5))
	tried := 0
	for range 3000 {
		g := wild(rng, 1+rng.Intn(8), 1+rng.Intn(5), 1+rng.Intn(8), 1+rng.Intn(5), 5+rng.Intn(5))
		_, fights, err := lr.Make(g)
		if err != api.OK || len(fights) > 0 {
			continue
		}
		for range 3 {
			x, ok := grown(rng, g, rng.Intn(40))
			if !ok || len(yield(g, x)) > 20 {
				continue
			}
			tried++
			counted(t, g, yield(g, x), 1)
		}
	}
	if tried < 1000 {
		t.Errorf("only %d words were tried", tried)
	}
}
