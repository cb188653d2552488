package cfg_test

import (
	"maps"
	"math"
	"math/rand"
	"slices"
	"testing"

	"pushmill/api"
	"pushmill/cfg"
)

// of: are these the productions of a nonterminal?
func of(t *testing.T, g api.Grammar, n int, want ...int) {
	t.Helper()
	if l, err := cfg.Of(g, n); !slices.Equal(l, want) || err != api.OK {
		t.Fatalf("Of(%s, %d): %v %d, not %v", show(g), n, l, err, want)
	}
}

// ofFails: is that no nonterminal of g?
func ofFails(t *testing.T, g api.Grammar, n int) {
	t.Helper()
	if l, err := cfg.Of(g, n); l != nil || err != api.ErrArg {
		t.Fatalf("Of(%s, %d): %v %d", show(g), n, l, err)
	}
}

func TestP29Of(t *testing.T) {
	of(t, brackets(), 0, 0, 1)
	g := grammar(1, 4, prod(2), prod(0, term(0)), prod(2, non(3)), prod(3), prod(2), prod(0))
	of(t, g, 0, 1, 5)
	of(t, g, 1) // it has none, and is a nonterminal all the same
	of(t, g, 2, 0, 2, 4)
	of(t, g, 3, 3)
	for _, n := range []int{math.MinInt, -1, 4, 5, 20, math.MaxInt} {
		ofFails(t, g, n)
	}
	of(t, grammar(30, 1), 0)
	ofFails(t, grammar(30, 1), 1)
	ofFails(t, grammar(30, 1), -1)
	var all []int
	for i := range 40 {
		all = append(all, i)
	}
	of(t, greatest(), 19, all...)
	for n := range 19 {
		of(t, greatest(), n)
	}
	ofFails(t, greatest(), 20)
}

// The grammar's own error is told ahead of that of the number, and whatever the number is.
func TestP29OfRefuses(t *testing.T) {
	wide := grammar(0, 1, prod(0, slices.Repeat([]api.Sym{non(0)}, 9)...))
	for _, n := range []int{math.MinInt, -1, 0, 1, math.MaxInt} {
		if l, err := cfg.Of(wide, n); l != nil || err != api.ErrLarge {
			t.Errorf("Of %d: %v %d", n, l, err)
		}
		ofFails(t, api.Grammar{}, n)
	}
	refused(t, wide, api.ErrLarge)
}

// Each production is that of its Head, and of no other one.
func TestP29OfSampled(t *testing.T) {
	rng := rand.New(rand.NewSource(2))
	for range 2000 {
		g := wildOne(rng)
		want := map[int][]int{}
		for i, p := range g.Prods {
			want[p.Head] = append(want[p.Head], i)
		}
		for n := range g.Nons {
			of(t, g, n, want[n]...)
		}
		for _, n := range []int{math.MinInt, -1, g.Nons, g.Nons + 1, math.MaxInt} {
			ofFails(t, g, n)
		}
	}
}

// mirrors: is that the mirror of g, and g that of it?
func mirrors(t *testing.T, g, want api.Grammar) {
	t.Helper()
	if m, err := cfg.Mirror(g); !sameGrammar(m, want) || err != api.OK {
		t.Fatalf("Mirror(%s): %s %d, not %s", show(g), show(m), err, show(want))
	}
	if m, err := cfg.Mirror(want); !sameGrammar(m, g) || err != api.OK {
		t.Fatalf("Mirror(%s): %s %d, not %s", show(want), show(m), err, show(g))
	}
}

func TestP29Mirror(t *testing.T) {
	mirrors(t, brackets(), grammar(2, 1, prod(0), prod(0, term(1), non(0), term(0))))
	mirrors(t, grammar(30, 20), grammar(30, 20))
	mirrors(t, grammar(2, 2, prod(1, term(1)), prod(0, non(1), term(0))), grammar(2, 2, prod(1, term(1)), prod(0, term(0), non(1))))
	var there, back []api.Prod
	for width := range 9 {
		p, q := prod(width), prod(width)
		for n := range width {
			p.Body = append(p.Body, api.Sym{Kind: 1 + n%2, N: n})
			q.Body = slices.Insert(q.Body, 0, api.Sym{Kind: 1 + n%2, N: n})
		}
		there, back = append(there, p), append(back, q)
	}
	mirrors(t, grammar(8, 9, there...), grammar(8, 9, back...))
	m := greatest()
	for i := range m.Prods {
		m.Prods[i].Body = slices.Repeat([]api.Sym{non(19), term(29)}, 4)
	}
	mirrors(t, greatest(), m)
}

func TestP29MirrorSampled(t *testing.T) {
	rng := rand.New(rand.NewSource(3))
	for range 5000 {
		g := wildOne(rng)
		want := grammar(g.Terms, g.Nons)
		for _, p := range g.Prods {
			body := slices.Clone(p.Body)
			slices.Reverse(body)
			want.Prods = append(want.Prods, prod(p.Head, body...))
		}
		mirrors(t, g, want)
	}
}

func reversed(s string) string {
	b := []byte(s)
	slices.Reverse(b)
	return string(b)
}

// The words of a mirror are the words, turned round.
func TestP29MirroredWords(t *testing.T) {
	if w := wordsOf(brackets(), 6); !maps.Equal(w, words{"": true, "\x00\x01": true, "\x00\x00\x01\x01": true, "\x00\x00\x00\x01\x01\x01": true}) {
		t.Fatalf("the words of brackets: %v", w)
	}
	rng := rand.New(rand.NewSource(4))
	many, turned := 0, 0
	for range 3000 {
		g := wild(rng, 1+rng.Intn(3), 1+rng.Intn(3), 1+rng.Intn(7), 3)
		m, err := cfg.Mirror(g)
		if err != api.OK {
			t.Fatalf("Mirror(%s): %d", show(g), err)
		}
		had, want := wordsOf(g, 5), words{}
		for w := range had {
			want[reversed(w)] = true
		}
		if got := wordsOf(m, 5); !maps.Equal(got, want) {
			t.Fatalf("the words of the mirror of %s: %v, not %v", show(g), got, want)
		}
		if len(want) > 2 {
			many++
		}
		if !maps.Equal(had, want) {
			turned++
		}
	}
	if many < 300 || turned < 300 {
		t.Errorf("only %d have more than two words, %d others than turned round", many, turned)
	}
}
