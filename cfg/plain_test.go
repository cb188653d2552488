package cfg_test

import (
	"fmt"
	"math/rand"
	"regexp"
	"slices"
	"strconv"
	"strings"
	"testing"

	"pushmill/api"
	"pushmill/cfg"
)

// What follows makes grammars, and reads the chapter otherwise than the program does.

func term(n int) api.Sym { return api.Sym{Kind: api.Term, N: n} }

func non(n int) api.Sym { return api.Sym{Kind: api.Non, N: n} }

func prod(head int, body ...api.Sym) api.Prod { return api.Prod{Head: head, Body: body} }

func grammar(terms, nons int, prods ...api.Prod) api.Grammar {
	return api.Grammar{Terms: terms, Nons: nons, Prods: prods}
}

// brackets are pairs of t0 and t1, one within the other.
func brackets() api.Grammar {
	return grammar(2, 1, prod(0), prod(0, term(0), non(0), term(1)))
}

// greatest has as many of all as there may be, and each with the greatest number.
func greatest() api.Grammar {
	half := slices.Repeat([]api.Sym{term(29), non(19)}, 4)
	return grammar(30, 20, slices.Repeat([]api.Prod{prod(19, half...)}, 40)...)
}

// sameProd: are both the same? A list of nothing may be nil.
func sameProd(p, q api.Prod) bool { return p.Head == q.Head && slices.Equal(p.Body, q.Body) }

func sameGrammar(g, h api.Grammar) bool {
	return g.Terms == h.Terms && g.Nons == h.Nons && slices.EqualFunc(g.Prods, h.Prods, sameProd)
}

func isZero(g api.Grammar) bool { return g.Terms == 0 && g.Nons == 0 && g.Prods == nil }

// show tells of a grammar, which may be a great one.
func show(g api.Grammar) string {
	s := fmt.Sprint(g)
	if len(s) > 500 {
		s = s[:500] + fmt.Sprintf("... (%d productions)", len(g.Prods))
	}
	return s
}

// fault of a grammar: the lesser ones in order are told first.
type fault struct {
	order int
	err   api.Errno
}

// symbols has all that g has, if it has not far too many.
func symbols(g api.Grammar) map[api.Sym]bool {
	all := map[api.Sym]bool{}
	for n := range min(g.Terms, 100) {
		all[term(n)] = true
	}
	for n := range min(g.Nons, 100) {
		all[non(n)] = true
	}
	return all
}

// faults has all that is wrong with g.
func faults(g api.Grammar) []fault {
	var l []fault
	if g.Terms != min(max(g.Terms, 0), 30) || g.Nons != min(max(g.Nons, 1), 20) {
		l = append(l, fault{0, api.ErrArg})
	}
	if len(g.Prods) >= 41 {
		l = append(l, fault{1, api.ErrLarge})
	}
	all := symbols(g)
	for i, p := range g.Prods {
		for _, s := range append([]api.Sym{non(p.Head)}, p.Body...) {
			if !all[s] {
				l = append(l, fault{2*i + 3, api.ErrArg})
			}
		}
		if len(p.Body) >= 9 {
			l = append(l, fault{2*i + 2, api.ErrLarge})
		}
	}
	return l
}

// plainCheck tells the first one of all that is wrong.
func plainCheck(g api.Grammar) api.Errno {
	l := faults(g)
	if len(l) == 0 {
		return api.OK
	}
	return slices.MinFunc(l, func(a, b fault) int { return a.order - b.order }).err
}

// plainWrite writes a grammar that is right.
func plainWrite(g api.Grammar) string {
	s := fmt.Sprintf("%d %d\n", g.Terms, g.Nons)
	for _, p := range g.Prods {
		s += fmt.Sprintf("%d:", p.Head)
		for _, sym := range p.Body {
			s += fmt.Sprintf(" %c%d", "?tn"[sym.Kind], sym.N)
		}
		s += "\n"
	}
	return s
}

const number = `(0|[1-9][0-9]{0,8})`

var (
	firstLine = regexp.MustCompile(`\A` + number + ` ` + number + `\n\z`)
	prodLine  = regexp.MustCompile(`\A` + number + `:( [tn]` + number + `)*\n\z`)
	oneNumber = regexp.MustCompile(`[0-9]+`)
	oneSymbol = regexp.MustCompile(`[tn][0-9]+`)
)

// value of digits.
func value(digits string) int {
	n, err := strconv.Atoi(digits)
	if err != nil {
		panic(err)
	}
	return n
}

// plainProd is the production of a line that is right.
func plainProd(line string) api.Prod {
	p := prod(value(oneNumber.FindString(line)))
	for _, s := range oneSymbol.FindAllString(line, -1) {
		kind := api.Term
		if s[0] == 'n' {
			kind = api.Non
		}
		p.Body = append(p.Body, api.Sym{Kind: kind, N: value(s[1:])})
	}
	return p
}

// plainRead reads a text line by line, by patterns.
func plainRead(s string) (api.Grammar, int, api.Errno) {
	if len(s) >= 4097 {
		return api.Grammar{}, 0, api.ErrLarge
	}
	lines := strings.SplitAfter(s, "\n")
	if last := len(lines) - 1; last > 0 && lines[last] == "" {
		lines = lines[:last]
	}
	if !firstLine.MatchString(lines[0]) {
		return api.Grammar{}, 1, api.ErrSyntax
	}
	counts := oneNumber.FindAllString(lines[0], -1)
	g := grammar(value(counts[0]), value(counts[1]))
	for i, line := range lines[1:] {
		if !prodLine.MatchString(line) {
			return api.Grammar{}, i + 2, api.ErrSyntax
		}
		g.Prods = append(g.Prods, plainProd(line))
	}
	if err := plainCheck(g); err != api.OK {
		return api.Grammar{}, 0, err
	}
	return g, 0, api.OK
}

// words that a nonterminal makes: each terminal is a byte.
type words map[string]bool

// joined has each word of a with each of b behind it, but no word that is longer than most.
func joined(a, b words, most int) words {
	l := words{}
	for x := range a {
		for y := range b {
			if len(x)+len(y) <= most {
				l[x+y] = true
			}
		}
	}
	return l
}

// wordsOf has the words of g that are not longer than most: Bodies are put in till no word is new.
func wordsOf(g api.Grammar, most int) words {
	made := make([]words, g.Nons)
	for i := range made {
		made[i] = words{}
	}
	for grown := true; grown; {
		grown = false
		for _, p := range g.Prods {
			l := words{"": true}
			for _, s := range p.Body {
				next := words{string(rune(s.N)): true}
				if s.Kind == api.Non {
					next = made[s.N]
				}
				l = joined(l, next, most)
			}
			for w := range l {
				grown = grown || !made[p.Head][w]
				made[p.Head][w] = true
			}
		}
	}
	return made[0]
}

// wild is a grammar that is right, with productions no wider than that.
func wild(rng *rand.Rand, terms, nons, prods, width int) api.Grammar {
	g := grammar(terms, nons)
	for range prods {
		p := prod(rng.Intn(nons))
		for range rng.Intn(width + 1) {
			s := non(rng.Intn(nons))
			if terms > 0 && rng.Intn(2) == 0 {
				s = term(rng.Intn(terms))
			}
			p.Body = append(p.Body, s)
		}
		g.Prods = append(g.Prods, p)
	}
	return g
}

// wildOne is one of any size that there may be.
func wildOne(rng *rand.Rand) api.Grammar {
	return wild(rng, rng.Intn(31), 1+rng.Intn(20), rng.Intn(41), rng.Intn(9))
}

// small hands out grammars, right and wrong, of up to so many productions with up to so many symbols.
func small(prods, width int, each func(g api.Grammar)) {
	var bodies [][]api.Sym
	var grow func(body []api.Sym)
	grow = func(body []api.Sym) {
		bodies = append(bodies, slices.Clone(body))
		if len(body) == width {
			return
		}
		for kind := range 4 {
			for n := -1; n <= 2; n++ {
				grow(append(body, api.Sym{Kind: kind, N: n}))
			}
		}
	}
	grow(nil)
	var add func(g api.Grammar)
	add = func(g api.Grammar) {
		each(g)
		if len(g.Prods) == prods {
			return
		}
		for head := -1; head <= 2; head++ {
			for _, body := range bodies {
				add(grammar(g.Terms, g.Nons, append(slices.Clone(g.Prods), prod(head, body...))...))
			}
		}
	}
	for terms := -1; terms <= 2; terms++ {
		for nons := 0; nons <= 2; nons++ {
			add(grammar(terms, nons))
		}
	}
}

// checks: does Check tell that?
func checks(t *testing.T, g api.Grammar, want api.Errno) {
	t.Helper()
	if err := cfg.Check(g); err != want {
		t.Fatalf("Check(%s): %d, not %d", show(g), err, want)
	}
}

// refused: do all calls of a grammar refuse this one with that error, and nothing beside it?
func refused(t *testing.T, g api.Grammar, want api.Errno) {
	t.Helper()
	checks(t, g, want)
	for _, n := range []int{-1, 0, 1, 20} {
		if l, err := cfg.Of(g, n); l != nil || err != want {
			t.Fatalf("Of(%s, %d): %v %d, not %d", show(g), n, l, err, want)
		}
	}
	if m, err := cfg.Mirror(g); !isZero(m) || err != want {
		t.Fatalf("Mirror(%s): %s %d, not %d", show(g), show(m), err, want)
	}
	if s, err := cfg.Write(g); s != "" || err != want {
		t.Fatalf("Write(%s): %q %d, not %d", show(g), s, err, want)
	}
}

// writes: is that the text of g, and g what is read of it?
func writes(t *testing.T, g api.Grammar, want string) {
	t.Helper()
	if s, err := cfg.Write(g); s != want || err != api.OK {
		t.Fatalf("Write(%s): %q %d, not %q", show(g), s, err, want)
	}
	if h, at, err := cfg.Read(want); !sameGrammar(g, h) || at != 0 || err != api.OK {
		t.Fatalf("Read(%q): %s %d %d, not %s", want, show(h), at, err, show(g))
	}
}

// readFails: is the text refused, at that line, with nothing beside it?
func readFails(t *testing.T, s string, at int, err api.Errno) {
	t.Helper()
	if g, line, e := cfg.Read(s); !isZero(g) || line != at || e != err {
		t.Fatalf("Read(%.200q of %d): %s %d %d, not %d %d", s, len(s), show(g), line, e, at, err)
	}
}

// readsPlainly: is the text read as plainRead does, and, if it is a grammar's, written so again?
func readsPlainly(t *testing.T, s string) api.Errno {
	t.Helper()
	g, at, err := plainRead(s)
	if err != api.OK {
		readFails(t, s, at, err)
		return err
	}
	writes(t, g, s)
	return api.OK
}
