package ll_test

import (
	"fmt"
	"math/rand"
	"slices"
	"strings"
	"testing"

	"pushmill/api"
	"pushmill/cfg"
	"pushmill/facts"
	"pushmill/ll"
)

func TestP33KnownTables(t *testing.T) {
	type rows = [][]int
	type clashes = []api.Clash
	for _, c := range []struct {
		text    string
		rows    rows
		clashes clashes
	}{
		// Pairs of brackets.
		{"2 1\n0:\n0: t0 n0 t1\n", rows{{1, 0, 0}}, nil},
		// No production, no terminal: the end has its column always.
		{"0 1\n", rows{{-1}}, nil},
		{"3 2\n", rows{{-1, -1, -1, -1}, {-1, -1, -1, -1}}, nil},
		{"0 1\n0:\n", rows{{0}}, nil},
		{"0 1\n0: n0\n", rows{{-1}}, nil},
		{"0 2\n1:\n0: n1\n", rows{{1}, {0}}, nil},
		// From the left: both begin with t0.
		{"1 1\n0: n0 t0\n0: t0\n", rows{{0, -1}}, clashes{clash(0, 0, 0, 1)}},
		{"1 1\n0: t0\n0: n0 t0\n", rows{{0, -1}}, clashes{clash(0, 0, 0, 1)}},
		{"1 1\n0: t0 n0\n0:\n", rows{{0, 1}}, nil},
		// Sums: t0 a number, t1 plus, t2 times, t3 and t4 brackets.
		{"5 5\n0: n2 n1\n1: t1 n2 n1\n1:\n2: n4 n3\n3: t2 n4 n3\n3:\n4: t3 n0 t4\n4: t0\n",
			rows{{0, -1, -1, 0, -1, -1}, {-1, 1, -1, -1, 2, 2}, {3, -1, -1, 3, -1, -1}, {-1, 5, 4, -1, 5, 5}, {7, -1, -1, 6, -1, -1}}, nil},
		// One if within another: of which is the else?
		{"4 2\n0: t0 n0 n1\n0: t2\n1: t1 n0\n1:\n", rows{{0, -1, 1, -1, -1}, {-1, 2, -1, -1, 3}}, clashes{clash(1, 1, 2, 3)}},
		// Each further production stands against the least one, and not against another.
		{"1 1\n0:\n0:\n0:\n0:\n", rows{{-1, 0}}, clashes{clash(0, 1, 0, 1), clash(0, 1, 0, 2), clash(0, 1, 0, 3)}},
		{"1 1\n0: t0\n0:\n0: t0\n0:\n0: t0\n", rows{{0, 1}}, clashes{clash(0, 0, 0, 2), clash(0, 0, 0, 4), clash(0, 1, 1, 3)}},
		// By the nonterminal, then by the column, then by the further production, in whatever order these stand.
		{"2 2\n1: t1\n1: t0\n0: t1\n0: n1\n1: t1\n0: t0\n0: t1\n", rows{{3, 2, -1}, {1, 0, -1}},
			clashes{clash(0, 0, 3, 5), clash(0, 1, 2, 3), clash(0, 1, 2, 6), clash(1, 1, 0, 4)}},
		// What is Empty goes on to what comes behind it, and at last to what comes behind the Head.
		{"3 3\n0: n1 t2\n1: n2 n2\n2:\n2: t0\n", rows{{0, -1, 0, -1}, {1, -1, 1, -1}, {2, -1, 2, -1}}, clashes{clash(2, 0, 2, 3)}},
		{"3 3\n0: n1 n2\n1: t0\n1:\n2: t1\n2:\n", rows{{0, 0, -1, 0}, {1, 2, -1, 2}, {-1, 3, -1, 4}}, nil},
		// Behind one that is never come to nothing comes; but it counts for others.
		{"1 2\n0: t0\n1:\n", rows{{0, -1}, {-1, -1}}, nil},
		{"2 3\n0: n2\n1: n2 t1\n2:\n2: t0\n", rows{{0, -1, 0}, {1, 1, -1}, {3, 2, 2}}, nil},
		// Where a further symbol makes nothing, what stands ahead of it counts all the same.
		{"1 2\n0: t0 n1\n", rows{{0, -1}, {-1, -1}}, nil},
		{"2 3\n0: n1 n2 t1\n1: t0\n1:\n", rows{{0, -1, -1}, {1, -1, -1}, {-1, -1, -1}}, nil},
		{"1 2\n0: t0\n0: t0 n1\n1: t0 n1\n", rows{{0, -1}, {2, -1}}, clashes{clash(0, 0, 0, 1)}},
	} {
		makes(t, must(t, c.text), c.rows, c.clashes)
	}
}

// Each terminal has its own column, and the end the one behind them.
func TestP33EachColumn(t *testing.T) {
	for terms := range 31 {
		for col := range terms + 1 {
			rows := empties(3, terms+1)
			rows[0][col], rows[2][col] = 1, 0
			own, opens := prod(2), prod(0, non(2))
			if col < terms {
				own.Body = []api.Sym{term(col)}
			}
			g := grammar(terms, 3, own, opens)
			makes(t, g, rows, nil)
			g.Prods = append(g.Prods, own)
			makes(t, g, rows, []api.Clash{{Non: 2, Col: col, A: 0, B: 2}})
		}
	}
}

// Each place of the widest Body counts, as far as all ahead of it is Empty.
func TestP33EachPlace(t *testing.T) {
	for at := range 9 {
		body := slices.Repeat([]api.Sym{non(1)}, 8)
		rows := empties(2, 31)
		rows[0][30], rows[1][30] = 0, 1
		if at < 8 {
			body[at] = term(29)
			rows = empties(2, 31)
			rows[0][29] = 0
		}
		if at > 0 && at < 8 {
			rows[1][29] = 1
		}
		if at < 7 {
			rows[1][30] = 1
		}
		makes(t, grammar(30, 2, prod(0, body...), prod(1)), rows, nil)
	}
}

// The most that there may be of all: forty productions, all of which may be taken at each terminal, and ten of them at the end.
func TestP33TheMostClashes(t *testing.T) {
	g := grammar(30, 20)
	for n := range 30 {
		g.Prods = append(g.Prods, prod(0, non(0), term(n)))
	}
	g.Prods = append(g.Prods, make([]api.Prod, 10)...)
	rows := empties(20, 31)
	rows[0] = append(make([]int, 30), 30)
	var clashes []api.Clash
	for col := range 30 {
		for n := 1; n < 40; n++ {
			clashes = append(clashes, api.Clash{Col: col, B: n})
		}
	}
	for n := 31; n < 40; n++ {
		clashes = append(clashes, api.Clash{Col: 30, A: 30, B: n})
	}
	makes(t, g, rows, clashes)
}

func TestP33WrongGrammars(t *testing.T) {
	wide := prod(0, make([]api.Sym, 9)...)
	for _, c := range []struct {
		g    api.Grammar
		want api.Errno
	}{
		{api.Grammar{}, api.ErrArg},
		{grammar(-1, 1), api.ErrArg},
		{grammar(31, 1), api.ErrArg},
		{grammar(0, 21), api.ErrArg},
		{grammar(0, 0, make([]api.Prod, 41)...), api.ErrArg},
		{grammar(0, 1, make([]api.Prod, 41)...), api.ErrLarge},
		{grammar(0, 1, wide), api.ErrLarge},
		{grammar(0, 1, prod(1), wide), api.ErrArg},
		{grammar(0, 1, prod(-1)), api.ErrArg},
		{grammar(0, 1, prod(0, term(0))), api.ErrArg},
		{grammar(1, 1, prod(0, non(1))), api.ErrArg},
		{grammar(1, 1, prod(0, api.Sym{})), api.ErrArg},
		{grammar(1, 1, prod(0, api.Sym{Kind: 3})), api.ErrArg},
	} {
		refused(t, c.g, c.want)
	}
	for _, n := range edges() {
		for _, g := range []api.Grammar{
			grammar(n, 1), grammar(1, n), grammar(30, 20, prod(n)), grammar(30, 20, prod(0, term(n))), grammar(30, 20, prod(0, non(n))),
		} {
			if err := cfg.Check(g); err != api.OK {
				refused(t, g, err)
			} else {
				rows, clashes := plainMake(t, g)
				makes(t, g, rows, clashes)
			}
		}
	}
}

func TestP33AllSmallGrammars(t *testing.T) {
	each := func(g api.Grammar) {
		rows, clashes := plainMake(t, g)
		makes(t, g, rows, clashes)
	}
	small(2, 2, 3, 2, each)
	small(1, 3, 2, 3, each)
	small(1, 1, 4, 2, each)
	small(0, 3, 3, 1, each)
}

func TestP33WildGrammars(t *testing.T) {
	rng := rand.New(rand.NewSource(1))
	without, with, most := 0, 0, 0
	for range 10000 {
		g := wildOne(rng)
		rows, clashes := plainMake(t, g)
		makes(t, g, rows, clashes)
		if len(clashes) > 0 {
			with++
			most = max(most, len(clashes))
		} else if len(g.Prods) > 5 {
			without++
		}
	}
	if without < 200 || with < 1000 || most < 200 {
		t.Errorf("%d grammars have no clash, %d have some, the most %d", without, with, most)
	}
}

// startsIn has what a form may begin with, as columns: bodies are put in at its beginning, while it is not longer than most.
func startsIn(g api.Grammar, form []api.Sym, most int) map[int]bool {
	cols := map[int]bool{}
	seen := map[string]bool{}
	var walk func(form []api.Sym)
	walk = func(form []api.Sym) {
		switch {
		case len(form) > most || seen[fmt.Sprint(form)]:
			return
		case len(form) == 0:
			cols[g.Terms] = true
			return
		case form[0].Kind == api.Term:
			cols[form[0].N] = true
			return
		}
		seen[fmt.Sprint(form)] = true
		for _, p := range g.Prods {
			if p.Head == form[0].N {
				walk(slices.Concat(p.Body, form[1:]))
			}
		}
	}
	walk(form)
	return cols
}

// restsOf has of each nonterminal all that stands behind it in what comes of n0, if that is not longer than most.
func restsOf(g api.Grammar, most int) []map[string][]api.Sym {
	rests := make([]map[string][]api.Sym, g.Nons)
	for n := range rests {
		rests[n] = map[string][]api.Sym{}
	}
	seen := map[string]bool{}
	var walk func(form []api.Sym)
	walk = func(form []api.Sym) {
		if len(form) > most || seen[fmt.Sprint(form)] {
			return
		}
		seen[fmt.Sprint(form)] = true
		for i, s := range form {
			if s.Kind != api.Non {
				continue
			}
			rests[s.N][fmt.Sprint(form[i+1:])] = form[i+1:]
			for _, p := range g.Prods {
				if p.Head == s.N {
					walk(slices.Concat(form[:i], p.Body, form[i+1:]))
				}
			}
		}
	}
	walk([]api.Sym{non(0)})
	return rests
}

// Where all can be come to, and make something, a production may be taken at what its Body does begin with, with what does come behind its Head.
func TestP33WhatDoesBegin(t *testing.T) {
	tried := 0
	try := func(g api.Grammar) {
		f, _ := facts.Of(g)
		if slices.Contains(f.Makes, false) || slices.Contains(f.Reach, false) {
			return
		}
		tried++
		rests := restsOf(g, 4)
		rows := empties(g.Nons, g.Terms+1)
		var clashes []api.Clash
		for n := range g.Nons {
			for col := range g.Terms + 1 {
				for i, p := range g.Prods {
					if p.Head != n || !beginsWith(g, p, rests[n], col) {
						continue
					}
					if rows[n][col] < 0 {
						rows[n][col] = i
					} else {
						clashes = append(clashes, api.Clash{Non: n, Col: col, A: rows[n][col], B: i})
					}
				}
			}
		}
		makes(t, g, rows, clashes)
	}
	small(1, 1, 3, 2, try)
	small(2, 2, 2, 2, try)
	small(1, 2, 3, 2, try)
	if tried < 1000 {
		t.Errorf("only %d grammars were tried", tried)
	}
}

// beginsWith: does p's Body with one of these behind it begin with what col stands for?
func beginsWith(g api.Grammar, p api.Prod, rests map[string][]api.Sym, col int) bool {
	for _, rest := range rests {
		if startsIn(g, slices.Concat(p.Body, rest), 6)[col] {
			return true
		}
	}
	return false
}

// wordsOf has of each nonterminal the words that are not longer than most, each terminal a byte: Bodies are put in till no word is new.
func wordsOf(g api.Grammar, most int) []map[string]bool {
	made := make([]map[string]bool, g.Nons)
	for n := range made {
		made[n] = map[string]bool{}
	}
	for grown := true; grown; {
		grown = false
		for _, p := range g.Prods {
			for w := range bodyWords(p.Body, made, most) {
				grown = grown || !made[p.Head][w]
				made[p.Head][w] = true
			}
		}
	}
	return made
}

// bodyWords has the words of a Body of which those of its nonterminals are made.
func bodyWords(body []api.Sym, made []map[string]bool, most int) map[string]bool {
	l := map[string]bool{"": true}
	for _, s := range body {
		next := map[string]bool{string(rune('0' + s.N)): true}
		if s.Kind == api.Non {
			next = made[s.N]
		}
		longer := map[string]bool{}
		for x := range l {
			for y := range next {
				if len(x)+len(y) <= most {
					longer[x+y] = true
				}
			}
		}
		l = longer
	}
	return l
}

// climbs down by rows: is word one of the grammar? It is given up behind a thousand productions.
func climbs(t *testing.T, g api.Grammar, rows [][]int, word string) bool {
	t.Helper()
	ahead := []api.Sym{non(0)}
	for range 1000 {
		for len(ahead) > 0 && ahead[0].Kind == api.Term {
			if word == "" || int(word[0]-'0') != ahead[0].N {
				return false
			}
			word, ahead = word[1:], ahead[1:]
		}
		if len(ahead) == 0 {
			return word == ""
		}
		col := g.Terms
		if word != "" {
			col = int(word[0] - '0')
		}
		n := rows[ahead[0].N][col]
		if n < 0 {
			return false
		}
		ahead = slices.Concat(g.Prods[n].Body, ahead[1:])
	}
	t.Fatalf("%s: %v lead nowhere at %q", show(g), rows, word)
	return false
}

// allWords has all words of so many terminals that are not longer than most.
func allWords(terms, most int) []string {
	l := []string{""}
	for from := 0; most > 0; most-- {
		to := len(l)
		for _, w := range l[from:to] {
			for n := range terms {
				l = append(l, w+string(rune('0'+n)))
			}
		}
		from = to
	}
	return l
}

// Without a Clash the rows lead down just the grammar's words.
func TestP33RowsLeadDownTheWords(t *testing.T) {
	tried, taken := 0, 0
	try := func(g api.Grammar, most int) {
		rows, clashes, err := ll.Make(g)
		if err != api.OK || len(clashes) > 0 {
			return
		}
		words := wordsOf(g, most)[0]
		if len(words) > 0 {
			tried++
		}
		for _, w := range allWords(g.Terms, most) {
			if climbs(t, g, rows, w) != words[w] {
				t.Fatalf("%s: %v, and of %q %v is told", show(g), rows, w, !words[w])
			}
			if words[w] {
				taken++
			}
		}
	}
	small(2, 2, 3, 2, func(g api.Grammar) { try(g, 4) })
	small(1, 2, 3, 2, func(g api.Grammar) { try(g, 7) })
	rng := rand.New(rand.NewSource(2))
	for range 20000 {
		try(wild(rng, 3, 4, 3+rng.Intn(5), 3, 6), 5)
	}
	if tried < 2000 || taken < 5000 {
		t.Errorf("only %d grammars were tried, with %d words", tried, taken)
	}
}

// A production more takes no Clash away; only a lesser one may come to stand against it.
func TestP33WhatClashesStays(t *testing.T) {
	rng := rand.New(rand.NewSource(3))
	seen := 0
	for range 5000 {
		g := wild(rng, 1+rng.Intn(4), 1+rng.Intn(4), 2+rng.Intn(8), 3, 5)
		_, fewer, _ := ll.Make(grammar(g.Terms, g.Nons, g.Prods[:len(g.Prods)-1]...))
		_, clashes, _ := ll.Make(g)
		for _, c := range fewer {
			again := slices.ContainsFunc(clashes, func(d api.Clash) bool { return d.Non == c.Non && d.Col == c.Col && d.A <= c.A && d.B == c.B })
			if !again {
				t.Fatalf("%s: %v, without the last production %v", show(g), clashes, fewer)
			}
			seen++
		}
	}
	if seen < 1000 {
		t.Errorf("only %d clashes were seen", seen)
	}
}

// With other numbers for its terminals and nonterminals (but 0) a grammar has the same productions, at other places.
func TestP33OtherNumbers(t *testing.T) {
	g := must(t, "5 5\n0: n2 n1\n1: t1 n2 n1\n1:\n2: n4 n3\n3: t2 n4 n3\n3:\n4: t3 n0 t4\n4: t0\n")
	rows, _, _ := ll.Make(g)
	turn := strings.NewReplacer("t0", "t4", "t1", "t3", "t3", "t1", "t4", "t0", "n1", "n4", "n2", "n3", "n3", "n2", "n4", "n1", "\n1", "\n4", "\n2", "\n3", "\n3", "\n2", "\n4", "\n1")
	text, _ := cfg.Write(g)
	turned := empties(5, 6)
	for n, row := range rows {
		to := slices.Clone(row)
		slices.Reverse(to[:5]) // the end's column stays the last one
		turned[(5-n)%5] = to
	}
	makes(t, must(t, turn.Replace(text)), turned, nil)
}
