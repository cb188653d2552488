package facts_test

import (
	"fmt"
	"maps"
	"math"
	"math/rand"
	"slices"
	"testing"

	"pushmill/api"
	"pushmill/cfg"
	"pushmill/facts"
)

func TestP31KnownFacts(t *testing.T) {
	no, yes := false, true
	type sets = []uint64
	type are = []bool
	for _, c := range []struct {
		text                string
		empty, reach, makes are
		first, follow       sets
	}{
		// Pairs of brackets.
		{"2 1\n0:\n0: t0 n0 t1\n", are{yes}, are{yes}, are{yes}, sets{1}, sets{end | 2}},
		// No production at all: nothing is made, yet the end is behind 0.
		{"0 1\n", are{no}, are{yes}, are{no}, sets{0}, sets{end}},
		{"3 3\n", are{no, no, no}, are{yes, no, no}, are{no, no, no}, sets{0, 0, 0}, sets{end, 0, 0}},
		{"0 1\n0:\n", are{yes}, are{yes}, are{yes}, sets{0}, sets{end}},
		{"0 1\n0: n0\n", are{no}, are{yes}, are{no}, sets{0}, sets{end}},
		// From the left: what begins the word is behind the nonterminal only if it stands there.
		{"2 1\n0: n0 t0\n0: t1\n", are{no}, are{yes}, are{yes}, sets{2}, sets{end | 1}},
		{"1 1\n0: n0 n0\n0: t0\n", are{no}, are{yes}, are{yes}, sets{1}, sets{end | 1}},
		// Sums: t0 a number, t1 plus, t2 times, t3 and t4 brackets.
		{"5 5\n0: n2 n1\n1: t1 n2 n1\n1:\n2: n4 n3\n3: t2 n4 n3\n3:\n4: t3 n0 t4\n4: t0\n",
			are{no, yes, no, yes, no}, are{yes, yes, yes, yes, yes}, are{yes, yes, yes, yes, yes},
			sets{9, 2, 9, 4, 9}, sets{end | 16, end | 16, end | 18, end | 18, end | 22}},
		// A Body with a symbol that makes nothing begins no word, however it begins itself.
		{"1 2\n0: t0 n1\n", are{no, no}, are{yes, yes}, are{no, no}, sets{0, 0}, sets{end, end}},
		{"2 3\n0: t0 n1\n0: n2 t1\n2:\n2: t0 n1\n", are{no, no, yes}, are{yes, yes, yes}, are{yes, no, yes},
			sets{2, 0, 0}, sets{end, end | 2, 2}},
		// Follow takes First and Empty as they are: behind n1 stands n2, which makes nothing; a terminal counts whatever comes then.
		{"1 3\n0: n1 n2 t0\n1:\n", are{no, yes, no}, are{yes, yes, yes}, are{no, yes, no}, sets{0, 0, 0}, sets{end, 0, 1}},
		{"1 3\n0: n1 t0 n2\n1:\n", are{no, yes, no}, are{yes, yes, yes}, are{no, yes, no}, sets{0, 0, 0}, sets{end, 1, end}},
		{"1 3\n0: n1 n2\n1:\n2: t0 n2\n", are{no, yes, no}, are{yes, yes, yes}, are{no, yes, no}, sets{0, 0, 0}, sets{end, 0, end}},
		// It goes by productions whose Head is never come to, too; the end is not behind that Head.
		{"3 3\n0: t0\n1: n2 t1\n2: t2\n", are{no, no, no}, are{yes, no, no}, are{yes, yes, yes}, sets{1, 4, 4}, sets{end, 0, 2}},
		{"1 3\n0: n2\n1: n2 t0 n0\n2:\n", are{yes, no, yes}, are{yes, no, yes}, are{yes, yes, yes}, sets{0, 1, 0}, sets{end, 0, end | 1}},
		// Wherever a nonterminal stands: it is behind itself, too.
		{"2 2\n0: n1 n1 t1\n1: t0\n1:\n", are{no, yes}, are{yes, yes}, are{yes, yes}, sets{3, 1}, sets{end, 3}},
	} {
		has(t, must(t, c.text), api.Facts{Empty: c.empty, First: c.first, Follow: c.follow, Reach: c.reach, Makes: c.makes})
	}
}

// bools has so many of one value.
func bools(n int, value bool) []bool { return slices.Repeat([]bool{value}, n) }

// turnedRound has the same productions, the last one first.
func turnedRound(g api.Grammar) api.Grammar {
	l := slices.Clone(g.Prods)
	slices.Reverse(l)
	return grammar(g.Terms, g.Nons, l...)
}

// What is known of a nonterminal goes all the way along, in whatever order the productions stand.
func TestP31LongWays(t *testing.T) {
	for nons := 2; nons <= 20; nons++ {
		last := nons - 1
		down := grammar(4, nons, prod(last, term(3)), prod(last))
		for n := range last {
			down.Prods = append(down.Prods, prod(n, non(n+1)))
		}
		f := api.Facts{
			Empty: bools(nons, true), Makes: bools(nons, true), Reach: bools(nons, true),
			First: slices.Repeat([]uint64{8}, nons), Follow: slices.Repeat([]uint64{end}, nons),
		}
		has(t, down, f)
		has(t, turnedRound(down), f)

		cut := grammar(4, nons, down.Prods[2:]...)
		f = api.Facts{
			Empty: bools(nons, false), Makes: bools(nons, false), Reach: bools(nons, true),
			First: make([]uint64, nons), Follow: slices.Repeat([]uint64{end}, nons),
		}
		has(t, cut, f)
		has(t, turnedRound(cut), f)

		up := grammar(4, nons, prod(0, term(2)))
		for n := range last {
			up.Prods = append(up.Prods, prod(n+1, non(n)))
		}
		f = api.Facts{
			Empty: bools(nons, false), Makes: bools(nons, true), Reach: append([]bool{true}, bools(last, false)...),
			First: slices.Repeat([]uint64{4}, nons), Follow: append([]uint64{end}, make([]uint64, last)...),
		}
		has(t, up, f)
		has(t, turnedRound(up), f)
	}
}

// Each terminal has its own bit, and the end is none of these.
func TestP31EachTerminal(t *testing.T) {
	for n := range 30 {
		g := grammar(30, 2, prod(0, non(1), term(n)), prod(1, term(29-n)), prod(1))
		has(t, g, api.Facts{
			Empty: []bool{false, true}, Reach: bools(2, true), Makes: bools(2, true),
			First: []uint64{1<<n | 1<<(29-n), 1 << (29 - n)}, Follow: []uint64{1 << 63, 1 << n},
		})
	}
	each := grammar(30, 1)
	for n := range 30 {
		each.Prods = append(each.Prods, prod(0, term(n), non(0), term(n)))
	}
	none := api.Facts{Empty: bools(1, false), Reach: bools(1, true), Makes: bools(1, false), First: []uint64{0}, Follow: []uint64{end | 1<<30 - 1}}
	has(t, each, none)
	each.Prods = append(each.Prods, prod(0))
	has(t, each, api.Facts{Empty: bools(1, true), Reach: bools(1, true), Makes: bools(1, true), First: []uint64{1<<30 - 1}, Follow: none.Follow})
}

// Each place of the widest Body counts, and only as far as all ahead of it, or behind it, is Empty.
func TestP31EachPlace(t *testing.T) {
	for at := range 8 {
		body := slices.Repeat([]api.Sym{non(1)}, 8)
		body[at] = non(2)
		g := grammar(3, 4, prod(0, body...), prod(1), prod(1, term(1)), prod(2, term(2)))
		f := plainOf(g)
		f.Empty = []bool{false, true, false, false}
		f.First = []uint64{6, 2, 4, 0}
		f.Follow = []uint64{end, 6 | end, end | 2, 0}
		if at == 0 {
			f.First[0] = 4
			f.Follow[1] = end | 2
		}
		if at == 7 {
			f.Follow = []uint64{end, 6, end, 0}
		}
		has(t, g, f)
		g.Prods[3].Body = []api.Sym{non(3)} // now n2 makes nothing, and so does 0
		f.Makes = []bool{false, true, false, false}
		f.Reach = bools(4, true)
		f.First = []uint64{0, 2, 0, 0}
		f.Follow = []uint64{end, 2 | end, end | 2, end | 2}
		if at == 7 {
			f.Follow = []uint64{end, 2, end, end}
		}
		has(t, g, f)
	}
}

// Of each nonterminal there is one of all, also of such as no production speaks of.
func TestP31OneOfEach(t *testing.T) {
	for nons := 1; nons <= 20; nons++ {
		for terms := range 31 {
			has(t, grammar(terms, nons), api.Facts{
				Empty: make([]bool, nons), Makes: make([]bool, nons), Reach: append([]bool{true}, make([]bool, nons-1)...),
				First: make([]uint64, nons), Follow: append([]uint64{end}, make([]uint64, nons-1)...),
			})
		}
	}
}

func TestP31AllSmallGrammars(t *testing.T) {
	each := func(g api.Grammar) { has(t, g, plainOf(g)) }
	small(2, 2, 3, 2, each)
	small(1, 3, 2, 3, each)
	small(1, 3, 3, 2, each)
	small(1, 2, 4, 1, each)
	small(0, 3, 3, 2, each)
}

// words that a nonterminal makes: each terminal is a byte.
type words map[string]bool

// joined has each word of a with each of b behind it, but no word that is longer than most.
func joined(a, b words, most int) words {
	l := words{}
	for x := range a {
		for y := range b {
			if len(x)+len(y) <= most {
				l[x+y] = true
			}
		}
	}
	return l
}

// wordsOf has of each nonterminal the words that are not longer than most: Bodies are put in till no word is new.
func wordsOf(g api.Grammar, most int) []words {
	made := make([]words, g.Nons)
	for i := range made {
		made[i] = words{}
	}
	for grown := true; grown; {
		grown = false
		for _, p := range g.Prods {
			l := words{"": true}
			for _, s := range p.Body {
				next := words{string(rune(s.N)): true}
				if s.Kind == api.Non {
					next = made[s.N]
				}
				l = joined(l, next, most)
			}
			for w := range l {
				grown = grown || !made[p.Head][w]
				made[p.Head][w] = true
			}
		}
	}
	return made
}

// Makes, Empty and First are what the words say: in so small grammars words of up to nine do.
func TestP31WordsOfSmallGrammars(t *testing.T) {
	try := func(g api.Grammar) {
		f, err := facts.Of(g)
		for n, l := range wordsOf(g, 9) {
			var first uint64
			for w := range l {
				if w != "" {
					first |= set(int(w[0]))
				}
			}
			if err != api.OK || f.Makes[n] != (len(l) > 0) || f.Empty[n] != l[""] || f.First[n] != first {
				t.Fatalf("Of(%s): %v %d, but n%d has the words %q", show(g), f, err, n, slices.Sorted(maps.Keys(l)))
			}
		}
	}
	small(2, 2, 3, 2, try)
	small(1, 2, 2, 3, try)
	small(1, 3, 3, 2, try)
	small(1, 2, 4, 1, try)
}

// behindIn has of each nonterminal what stands right behind it in what comes of n0, if that is not longer than most.
func behindIn(g api.Grammar, most int) []uint64 {
	follow := make([]uint64, g.Nons)
	seen := map[string]bool{}
	var walk func(form []api.Sym)
	walk = func(form []api.Sym) {
		if len(form) > most || seen[fmt.Sprint(form)] {
			return
		}
		seen[fmt.Sprint(form)] = true
		for i, s := range form {
			if s.Kind != api.Non {
				continue
			}
			if i == len(form)-1 {
				follow[s.N] |= end
			} else if form[i+1].Kind == api.Term {
				follow[s.N] |= set(form[i+1].N)
			}
			for _, p := range g.Prods {
				if p.Head == s.N {
					walk(slices.Concat(form[:i], p.Body, form[i+1:]))
				}
			}
		}
	}
	walk([]api.Sym{non(0)})
	return follow
}

// Where all can be come to, and make something, Follow is what does come behind a nonterminal.
func TestP31WhatComesBehind(t *testing.T) {
	tried := 0
	try := func(g api.Grammar) {
		f, err := facts.Of(g)
		if slices.Contains(f.Makes, false) || slices.Contains(f.Reach, false) {
			return
		}
		tried++
		if want := behindIn(g, 5); !slices.Equal(f.Follow, want) || err != api.OK {
			t.Fatalf("Of(%s): %v %d, but behind them come %x", show(g), f, err, want)
		}
	}
	small(1, 1, 3, 2, try)
	small(2, 2, 2, 2, try)
	small(1, 2, 3, 2, try)
	if tried < 1000 {
		t.Errorf("only %d grammars were tried", tried)
	}
}

func TestP31WildGrammars(t *testing.T) {
	rng := rand.New(rand.NewSource(2))
	counts := map[string]int{}
	count := func(name string, l []bool) {
		for _, is := range l {
			counts[fmt.Sprint(name, is)]++
		}
	}
	for range 20000 {
		g := wildOne(rng)
		f := plainOf(g)
		has(t, g, f)
		has(t, turnedRound(g), f)
		count("Empty", f.Empty)
		count("Reach", f.Reach)
		count("Makes", f.Makes)
		for n, l := range f.First {
			count("First", []bool{l > 0})
			count("Follow", []bool{f.Follow[n] > 0})
		}
	}
	for _, name := range []string{"Empty", "Reach", "Makes", "First", "Follow"} {
		if counts[name+"false"] < 10000 || counts[name+"true"] < 10000 {
			t.Errorf("told: %v", counts)
		}
	}
}

// A production more takes nothing away, and the same one again adds nothing.
func TestP31MoreProductions(t *testing.T) {
	rng := rand.New(rand.NewSource(3))
	for range 5000 {
		g := wild(rng, 1+rng.Intn(5), 1+rng.Intn(5), 1+rng.Intn(20), 3, 5)
		f, _ := facts.Of(g)
		has(t, grammar(g.Terms, g.Nons, append(slices.Clone(g.Prods), g.Prods[rng.Intn(len(g.Prods))])...), f)
		less, _ := facts.Of(grammar(g.Terms, g.Nons, g.Prods[1:]...))
		for n := range g.Nons {
			if less.First[n]&^f.First[n] != 0 || less.Follow[n]&^f.Follow[n] != 0 || less.Makes[n] && !f.Makes[n] || less.Empty[n] && !f.Empty[n] || less.Reach[n] && !f.Reach[n] {
				t.Fatalf("%s: %v, without the first production %v", show(g), f, less)
			}
		}
	}
}

// edges are numbers at both sides of the bounds.
func edges() []int {
	return []int{math.MinInt, -1 << 32, -2, -1, 0, 1, 2, 19, 20, 21, 29, 30, 31, 40, 63, 64, 255, 256, 1 << 32, 1<<32 + 1, math.MaxInt}
}

func TestP31WrongGrammars(t *testing.T) {
	wide := prod(0, make([]api.Sym, 9)...)
	for _, c := range []struct {
		g    api.Grammar
		want api.Errno
	}{
		{api.Grammar{}, api.ErrArg},
		{grammar(-1, 1), api.ErrArg},
		{grammar(31, 1), api.ErrArg},
		{grammar(0, 21), api.ErrArg},
		{grammar(0, 0, make([]api.Prod, 41)...), api.ErrArg},
		{grammar(0, 1, make([]api.Prod, 41)...), api.ErrLarge},
		{grammar(0, 1, wide), api.ErrLarge},
		{grammar(0, 1, prod(1), wide), api.ErrArg},
		{grammar(0, 1, prod(-1)), api.ErrArg},
		{grammar(0, 1, prod(0, term(0))), api.ErrArg},
		{grammar(1, 1, prod(0, non(1))), api.ErrArg},
		{grammar(1, 1, prod(0, api.Sym{})), api.ErrArg},
		{grammar(1, 1, prod(0, api.Sym{Kind: 3})), api.ErrArg},
	} {
		refused(t, c.g, c.want)
	}
	for _, n := range edges() {
		for _, g := range []api.Grammar{
			grammar(n, 1), grammar(1, n), grammar(30, 20, prod(n)), grammar(30, 20, prod(0, term(n))), grammar(30, 20, prod(0, non(n))),
		} {
			if err := cfg.Check(g); err != api.OK {
				refused(t, g, err)
			} else {
				has(t, g, plainOf(g))
			}
		}
	}
}
