package ll_test

import (
	"cmp"
	"fmt"
	"math"
	"math/rand"
	"slices"
	"testing"

	"pushmill/api"
	"pushmill/cfg"
	"pushmill/facts"
	"pushmill/ll"
)

// What follows makes grammars, and reads the chapter otherwise than the program does.

func term(n int) api.Sym { return api.Sym{Kind: api.Term, N: n} }

func non(n int) api.Sym { return api.Sym{Kind: api.Non, N: n} }

func prod(head int, body ...api.Sym) api.Prod { return api.Prod{Head: head, Body: body} }

func grammar(terms, nons int, prods ...api.Prod) api.Grammar {
	return api.Grammar{Terms: terms, Nons: nons, Prods: prods}
}

func clash(non, col, a, b int) api.Clash { return api.Clash{Non: non, Col: col, A: a, B: b} }

// brackets are pairs of t0 and t1, one within the other.
func brackets() api.Grammar {
	return grammar(2, 1, prod(0), prod(0, term(0), non(0), term(1)))
}

// must is the grammar of a text.
func must(t *testing.T, s string) api.Grammar {
	t.Helper()
	g, at, err := cfg.Read(s)
	if err != api.OK {
		t.Fatalf("Read(%q): %d %d", s, at, err)
	}
	return g
}

// show tells of a grammar, or of rows, which may be great ones.
func show(thing any) string {
	s := fmt.Sprint(thing)
	if len(s) > 1500 {
		s = s[:1500] + fmt.Sprintf("... (of %d bytes)", len(s))
	}
	return s
}

// empties has no production anywhere.
func empties(nons, cols int) [][]int {
	rows := make([][]int, nons)
	for n := range rows {
		rows[n] = slices.Repeat([]int{-1}, cols)
	}
	return rows
}

// copied is a second list of the same rows.
func copied(rows [][]int) [][]int {
	l := slices.Clone(rows)
	for n, row := range l {
		l[n] = slices.Clone(row)
	}
	return l
}

// colsOf has the columns at which a production may be taken: f tells of its symbols, each of which counts, if those ahead of it are Empty.
func colsOf(g api.Grammar, f api.Facts, p api.Prod) []int {
	in := map[int]bool{}
	add := func(set uint64) {
		for col := range g.Terms {
			in[col] = in[col] || set&(1<<col) > 0
		}
		in[g.Terms] = in[g.Terms] || set >= 1<<63
	}
	through := true
	for _, s := range p.Body {
		if through && s.Kind == api.Term {
			in[s.N] = true
		}
		if through && s.Kind == api.Non {
			add(f.First[s.N])
		}
		through = through && s.Kind == api.Non && f.Empty[s.N]
	}
	if through {
		add(f.Follow[p.Head])
	}
	var cols []int
	for col := range g.Terms + 1 {
		if in[col] {
			cols = append(cols, col)
		}
	}
	return cols
}

// plainMake goes through the productions, and puts each into its places; the clashes are sorted in the end.
func plainMake(t *testing.T, g api.Grammar) ([][]int, []api.Clash) {
	t.Helper()
	f, err := facts.Of(g)
	if err != api.OK {
		t.Fatalf("facts.Of(%s): %d", show(g), err)
	}
	rows := empties(g.Nons, g.Terms+1)
	var clashes []api.Clash
	for i, p := range g.Prods {
		for _, col := range colsOf(g, f, p) {
			place := &rows[p.Head][col]
			if *place < 0 {
				*place = i
			} else {
				clashes = append(clashes, api.Clash{Non: p.Head, Col: col, A: *place, B: i})
			}
		}
	}
	slices.SortFunc(clashes, func(a, b api.Clash) int {
		return cmp.Or(cmp.Compare(a.Non, b.Non), cmp.Compare(a.Col, b.Col), cmp.Compare(a.B, b.B))
	})
	return rows, clashes
}

// plainCheck looks each number up among those that may stand in its row.
func plainCheck(g api.Grammar, rows [][]int) api.Errno {
	if err := cfg.Check(g); err != api.OK {
		return err
	}
	may := make([]map[int]bool, g.Nons)
	for n := range may {
		may[n] = map[int]bool{-1: true}
	}
	for i, p := range g.Prods {
		may[p.Head][i] = true
	}
	right := len(rows) == g.Nons
	for n, row := range rows {
		right = right && len(row) == g.Terms+1
		for _, number := range row {
			right = right && may[n][number]
		}
	}
	if right {
		return api.OK
	}
	return api.ErrArg
}

// wild is a grammar that is right, with productions no wider than that, and so many of ten symbols terminals.
func wild(rng *rand.Rand, terms, nons, prods, width, often int) api.Grammar {
	g := grammar(terms, nons)
	for range prods {
		p := prod(rng.Intn(nons))
		for range rng.Intn(width + 1) {
			s := non(rng.Intn(nons))
			if terms > 0 && rng.Intn(10) < often {
				s = term(rng.Intn(terms))
			}
			p.Body = append(p.Body, s)
		}
		g.Prods = append(g.Prods, p)
	}
	return g
}

// wildOne is one of any size that there may be.
func wildOne(rng *rand.Rand) api.Grammar {
	return wild(rng, rng.Intn(31), 1+rng.Intn(20), rng.Intn(41), rng.Intn(9), rng.Intn(10))
}

// edges are numbers at both sides of the bounds.
func edges() []int {
	return []int{math.MinInt, -1 << 32, -2, -1, 0, 1, 2, 19, 20, 21, 29, 30, 31, 39, 40, 41, 63, 64, 255, 256, 1<<32 - 1, 1 << 32, 1<<32 + 1, math.MaxInt}
}

// small hands out all grammars with so many terminals and nonterminals that have up to so many productions of up to so many symbols.
func small(terms, nons, prods, width int, each func(g api.Grammar)) {
	bodies := smallBodies(terms, nons, width)
	var add func(g api.Grammar)
	add = func(g api.Grammar) {
		each(g)
		if len(g.Prods) == prods {
			return
		}
		for head := range nons {
			for _, body := range bodies {
				add(grammar(terms, nons, append(slices.Clone(g.Prods), prod(head, body...))...))
			}
		}
	}
	add(grammar(terms, nons))
}

// smallBodies has all lists of up to so many symbols.
func smallBodies(terms, nons, width int) [][]api.Sym {
	var syms []api.Sym
	for n := range terms {
		syms = append(syms, term(n))
	}
	for n := range nons {
		syms = append(syms, non(n))
	}
	bodies := [][]api.Sym{nil}
	for from := 0; width > 0; width-- {
		to := len(bodies)
		for _, body := range bodies[from:to] {
			for _, s := range syms {
				bodies = append(bodies, append(slices.Clone(body), s))
			}
		}
		from = to
	}
	return bodies
}

// sameRows: are these the same numbers?
func sameRows(a, b [][]int) bool { return slices.EqualFunc(a, b, slices.Equal) }

// makes: are these the rows and clashes of g, and are the rows right?
func makes(t *testing.T, g api.Grammar, rows [][]int, clashes []api.Clash) {
	t.Helper()
	r, l, err := ll.Make(g)
	if !sameRows(r, rows) || !slices.Equal(l, clashes) || err != api.OK {
		t.Fatalf("Make(%s): %s %v %d, not %s %v", show(g), show(r), l, err, show(rows), clashes)
	}
	checks(t, g, r, api.OK)
}

// checks: does Check tell that?
func checks(t *testing.T, g api.Grammar, rows [][]int, want api.Errno) {
	t.Helper()
	if err := ll.Check(g, rows); err != want {
		t.Fatalf("Check(%s, %s): %d, not %d", show(g), show(rows), err, want)
	}
}

// refused: do both calls refuse this grammar with that error, whatever is beside it, and tell nothing else?
func refused(t *testing.T, g api.Grammar, want api.Errno) {
	t.Helper()
	if r, l, err := ll.Make(g); r != nil || l != nil || err != want {
		t.Fatalf("Make(%s): %s %v %d, not %d", show(g), show(r), l, err, want)
	}
	for _, rows := range [][][]int{nil, {}, {nil}, {{-1}}, {{0}}, {{-1, -1}}, {{99}}, empties(2, 2), empties(20, 31), empties(21, 32)} {
		checks(t, g, rows, want)
	}
}
