package build_test

import (
	"math/rand"
	"slices"
	"testing"

	"pushmill/api"
	"pushmill/build"
	"pushmill/cfg"
	"pushmill/count"
	"pushmill/facts"
	"pushmill/lr"
	"pushmill/trees"
)

// told has all events of a word, token by token and then End, and with an error how many tokens were taken ahead of it.
func told(g api.Grammar, tab api.Table, word []int) ([]api.Event, int, api.Errno) {
	s, all := build.Begin(), []api.Event{}
	for i, n := range word {
		d, l, err := build.Push(g, tab, s, n)
		if err != api.OK {
			return all, i, err
		}
		s, all = d, append(all, l...)
	}
	_, l, err := build.End(g, tab, s)
	return append(all, l...), len(word), err
}

// eachMakes: does each nonterminal make a word?
func eachMakes(g api.Grammar) bool {
	f, err := facts.Of(g)
	return err == api.OK && !slices.Contains(f.Makes, false)
}

// tellsTree: are the events of a word that has a tree those of Up?
func tellsTree(t *testing.T, g api.Grammar, tab api.Table, word []int) {
	t.Helper()
	x, _ := count.Only(g, word)
	want, bad := trees.Up(g, x)
	l, _, err := told(g, tab, word)
	if !slices.Equal(l, want) || err != api.OK || bad != api.OK {
		t.Fatalf("%s, %v: %v %d, not %v %d", show(g), word, l, err, want, bad)
	}
}

// refusesAtOnce: is the first token refused with which no word begins, or else the end?
func refusesAtOnce(t *testing.T, g api.Grammar, tab api.Table, word []int) {
	t.Helper()
	want := 0
	for want < len(word) {
		if is, err := count.Begins(g, word[:want+1]); err != api.OK || !is {
			break
		}
		want++
	}
	if _, place, err := told(g, tab, word); place != want || err != api.ErrToken {
		t.Fatalf("%s, %v: %d at %d, not at %d", show(g), word, err, place, want)
	}
}

// Of a grammar without a Fight a word tells Up of its tree, and what is no word is refused as soon as may be.
func TestP49SmallRanges(t *testing.T) {
	for _, of := range []struct{ terms, nons, prods, width, most, least int }{
		{2, 1, 3, 2, 5, 100}, {1, 1, 3, 3, 8, 20}, {1, 2, 3, 2, 7, 100}, {2, 2, 3, 1, 3, 100}, {3, 1, 3, 2, 4, 100}, {2, 2, 2, 2, 4, 100},
	} {
		grammars, all, some := 0, 0, 0
		words := lists(below(of.terms), of.most)
		small(of.terms, of.nons, of.prods, of.width, func(g api.Grammar) {
			tab, fights, err := lr.Make(g)
			if err != api.OK || len(fights) > 0 {
				return
			}
			grammars++
			makes := eachMakes(g)
			for _, word := range words {
				switch n, _ := count.Trees(g, word); {
				case n > 1:
					t.Fatalf("%s: %v has more than one tree", show(g), word)
				case n == 1:
					tellsTree(t, g, tab, word)
					all++
				case makes:
					refusesAtOnce(t, g, tab, word)
					some++
				}
			}
		})
		if grammars < of.least || all < of.least || some < of.least {
			t.Errorf("of %v: only %d grammars, %d words, %d that are none", of, grammars, all, some)
		}
	}
}

// split is a grammar whose productions of one nonterminal begin, for the most part, with different terminals.
func split(rng *rand.Rand, terms, nons, most int) api.Grammar {
	g := grammar(terms, nons)
	for n := range nons {
		firsts := rng.Perm(terms)
		for i := range 1 + rng.Intn(min(most, terms)) {
			var body []api.Sym
			switch rng.Intn(8) {
			case 0:
			case 1:
				body = append(body, non(rng.Intn(nons)))
			default:
				body = append(body, term(firsts[i]))
			}
			for range rng.Intn(4) * min(1, len(body)) {
				s := non(rng.Intn(nons))
				if rng.Intn(3) == 0 {
					s = term(rng.Intn(terms))
				}
				body = append(body, s)
			}
			if len(g.Prods) < 40 {
				g.Prods = append(g.Prods, prod(n, body...))
			}
		}
	}
	return g
}

// without is a grammar that has no Fight, and its table: one that is split, the mirror of such a one, or any small one.
func without(rng *rand.Rand) (api.Grammar, api.Table) {
	for {
		terms := 1 + rng.Intn(4)
		if rng.Intn(3) == 0 {
			terms = 1 + rng.Intn(30)
		}
		g := split(rng, terms, 1+rng.Intn(1+rng.Intn(12)), 1+rng.Intn(4))
		switch rng.Intn(3) {
		case 0:
			g, _ = cfg.Mirror(g)
		case 1:
			g = wild(rng, terms, 1+rng.Intn(5), 1+rng.Intn(8), 1+rng.Intn(4), 3+rng.Intn(5))
		}
		tab, fights, err := lr.Make(g)
		if err == api.OK && len(fights) == 0 {
			return g, tab
		}
	}
}

// never stands for the size of a tree that there is not.
const never = 1 << 20

// leastSizes has of each production how many nodes its least tree has.
func leastSizes(g api.Grammar) []int {
	of := slices.Repeat([]int{never}, len(g.Prods))
	for range len(g.Prods) + 1 {
		for n, p := range g.Prods {
			size := 1
			for _, s := range p.Body {
				least := 1
				if s.Kind == api.Non {
					least = never
				}
				for m, q := range g.Prods {
					if s == non(q.Head) {
						least = min(least, of[m])
					}
				}
				size += least
			}
			of[n] = min(size, never)
		}
	}
	return of
}

// nonsOf is how many nonterminals the Body of p has.
func nonsOf(p api.Prod) int {
	n := 0
	for _, s := range p.Body {
		if s.Kind == api.Non {
			n++
		}
	}
	return n
}

// grown is a tree as its word and its events from below.
type grown struct {
	word   []int
	events []api.Event
}

// grow has a tree of g, if there is one: up to some number of nodes, and down to some depth, it grows as it likes (or as much as it can,
// eager times of ten), and beyond that it ends as soon as it can.
func grow(rng *rand.Rand, g api.Grammar, nodes, depth, eager int) (grown, bool) {
	sizes := leastSizes(g)
	var x grown
	var add func(s api.Sym, deep int)
	add = func(s api.Sym, deep int) {
		nodes--
		if s.Kind == api.Term {
			x.events = append(x.events, had(len(x.word)))
			x.word = append(x.word, s.N)
			return
		}
		var may []int
		for n, p := range g.Prods {
			if p.Head == s.N && sizes[n] < never {
				may = append(may, n)
			}
		}
		n := may[rng.Intn(len(may))]
		if rng.Intn(10) < eager {
			n = slices.MaxFunc(may, func(a, b int) int { return nonsOf(g.Prods[a]) - nonsOf(g.Prods[b]) })
		}
		if nodes < 0 || deep > depth {
			n = slices.MinFunc(may, func(a, b int) int { return sizes[a] - sizes[b] })
		}
		for _, below := range g.Prods[n].Body {
			add(below, deep+1)
		}
		x.events = append(x.events, built(n))
	}
	for n, p := range g.Prods {
		if p.Head == 0 && sizes[n] < 3000 {
			add(non(0), 1)
			return x, true
		}
	}
	return x, false
}

// within has those of a tree's events that are told ahead of the token (or the end) at which there would be too much (all, if there is
// no such), and how many tokens come ahead of it.
func within(g api.Grammar, x grown) ([]api.Event, int, api.Errno) {
	from, tokens, size := 0, 0, 1
	for i, e := range x.events {
		size++
		if e.Kind == api.EReduce {
			size -= len(g.Prods[e.N].Body)
		}
		if size > 60 || i-from >= 2000 {
			return x.events[:from], tokens, api.ErrStack
		}
		if e.Kind == api.EToken {
			from = i + 1
			tokens++
		}
	}
	// To accept is an act, too.
	if len(x.events)-from >= 2000 {
		return x.events[:from], tokens, api.ErrStack
	}
	return x.events, tokens, api.OK
}

// Of greater grammars without a Fight, too, as long as acts and states stay within the bounds.
func TestP49TreesThatAreGrown(t *testing.T) {
	rng := rand.New(rand.NewSource(47))
	whole, broke, great := 0, 0, 0
	for range 24000 {
		g, tab := without(rng)
		x, ok := grow(rng, g, rng.Intn(1+rng.Intn(3000)), rng.Intn(150), rng.Intn(11))
		if !ok {
			continue
		}
		want, place, wrong := within(g, x)
		events, stopped, err := told(g, tab, x.word)
		if !slices.Equal(events, want) || err != wrong || stopped != place {
			t.Fatalf("%s, %v: %s %d at %d, not %s %d at %d", show(g), x.word, show(events), err, stopped, show(want), wrong, place)
		}
		if err != api.OK {
			broke++
			continue
		}
		whole++
		if len(events) > 200 {
			great++
		}
		if y, err := trees.OfUp(g, events); err == api.OK {
			if word, err := trees.Yield(g, y); !slices.Equal(word, x.word) || err != api.OK {
				t.Fatalf("%s, %v: a tree of %v %d", show(g), x.word, word, err)
			}
		} else if err == api.ErrForm {
			t.Fatalf("%s, %v: %s are of no tree", show(g), x.word, show(events))
		}
	}
	if whole < 5000 || broke < 200 || great < 100 {
		t.Errorf("only %d were whole, %d broken, %d great", whole, broke, great)
	}
}

// Of greater grammars without a Fight, where each nonterminal makes a word, whatever comes.
func TestP49WordsAreRefusedAtOnce(t *testing.T) {
	rng := rand.New(rand.NewSource(48))
	words, others := 0, 0
	for range 4000 {
		g, tab := without(rng)
		x, ok := grow(rng, g, rng.Intn(30), 30, 2)
		if !eachMakes(g) || !ok {
			continue
		}
		word := x.word
		for range rng.Intn(3) {
			i := rng.Intn(len(word) + 1)
			word = slices.Concat(word[:i], []int{rng.Intn(g.Terms)}, word[min(len(word), i+rng.Intn(2)):])
		}
		if len(word) > 20 {
			word = word[:20]
		}
		if n, _ := count.Trees(g, word); n == 1 {
			tellsTree(t, g, tab, word)
			words++
		} else {
			refusesAtOnce(t, g, tab, word)
			others++
		}
	}
	if words < 300 || others < 300 {
		t.Errorf("only %d words, %d others", words, others)
	}
}
