package climb_test

import (
	"math/rand"
	"slices"
	"testing"

	"pushmill/api"
	"pushmill/climb"
	"pushmill/count"
	"pushmill/facts"
	"pushmill/ll"
	"pushmill/trees"
)

// told has all events of a word, token by token and then End, and with an error how many tokens were taken ahead of it.
func told(g api.Grammar, rows [][]int, word []int) ([]api.Event, int, api.Errno) {
	c, all := climb.Begin(), []api.Event{}
	for i, n := range word {
		d, l, err := climb.Push(g, rows, c, n)
		if err != api.OK {
			return all, i, err
		}
		c, all = d, append(all, l...)
	}
	_, l, err := climb.End(g, rows, c)
	return append(all, l...), len(word), err
}

// eachMakes: does each nonterminal make a word?
func eachMakes(g api.Grammar) bool {
	f, err := facts.Of(g)
	return err == api.OK && !slices.Contains(f.Makes, false)
}

// words has all words of so many terminals that are not longer than most.
func words(terms, most int) [][]int {
	var l []int
	for n := range terms {
		l = append(l, n)
	}
	return lists(l, most)
}

// tellsTree: are the events of a word that has a tree those of Down?
func tellsTree(t *testing.T, g api.Grammar, rows [][]int, word []int) {
	t.Helper()
	x, _ := count.Only(g, word)
	want, bad := trees.Down(g, x)
	l, _, err := told(g, rows, word)
	if !slices.Equal(l, want) || err != api.OK || bad != api.OK {
		t.Fatalf("%s, %v: %v %d, not %v %d", show(g), word, l, err, want, bad)
	}
}

// refusesAtOnce: is the first token refused with which no word begins, or else the end?
func refusesAtOnce(t *testing.T, g api.Grammar, rows [][]int, word []int) {
	t.Helper()
	want := 0
	for want < len(word) {
		if is, err := count.Begins(g, word[:want+1]); err != api.OK || !is {
			break
		}
		want++
	}
	if _, at, err := told(g, rows, word); at != want || err != api.ErrToken {
		t.Fatalf("%s, %v: %d at %d, not at %d", show(g), word, err, at, want)
	}
}

// Of a grammar without a Clash a word tells Down of its tree, and what is no word is refused as soon as may be.
func TestP46SmallRanges(t *testing.T) {
	for _, of := range []struct{ terms, nons, prods, width, most, least int }{
		{2, 1, 3, 2, 5, 100}, {1, 1, 3, 3, 8, 20}, {1, 2, 3, 2, 7, 100}, {2, 2, 3, 1, 3, 100}, {3, 1, 3, 2, 4, 100}, {2, 2, 2, 2, 4, 100},
	} {
		grammars, all, some := 0, 0, 0
		small(of.terms, of.nons, of.prods, of.width, func(g api.Grammar) {
			rows, clashes, _ := ll.Make(g)
			if len(clashes) > 0 {
				return
			}
			grammars++
			makes := eachMakes(g)
			for _, word := range words(of.terms, of.most) {
				switch n, _ := count.Trees(g, word); {
				case n > 1:
					t.Fatalf("%s: %v has more than one tree", show(g), word)
				case n == 1:
					tellsTree(t, g, rows, word)
					all++
				case makes:
					refusesAtOnce(t, g, rows, word)
					some++
				}
			}
		})
		if grammars < of.least || all < of.least || some < of.least {
			t.Errorf("of %v: only %d grammars, %d words, %d that are none", of, grammars, all, some)
		}
	}
}

// split is a grammar whose productions of one nonterminal begin, for the most part, with different terminals.
func split(rng *rand.Rand, terms, nons, most int) api.Grammar {
	g := grammar(terms, nons)
	for n := range nons {
		firsts := rng.Perm(terms)
		for i := range 1 + rng.Intn(min(most, terms)) {
			var body []api.Sym
			switch rng.Intn(8) {
			case 0:
			case 1:
				body = append(body, non(rng.Intn(nons)))
			default:
				body = append(body, term(firsts[i]))
			}
			for range rng.Intn(4) * min(1, len(body)) {
				s := non(rng.Intn(nons))
				if rng.Intn(3) == 0 {
					s = term(rng.Intn(terms))
				}
				body = append(body, s)
			}
			if len(g.Prods) < 40 {
				g.Prods = append(g.Prods, prod(n, body...))
			}
		}
	}
	return g
}

// without is a grammar of that kind that has no Clash, and its rows.
func without(rng *rand.Rand) (api.Grammar, [][]int) {
	for {
		terms := 1 + rng.Intn(30)
		if rng.Intn(3) == 0 {
			terms = 1 + rng.Intn(4)
		}
		g := split(rng, terms, 1+rng.Intn(1+rng.Intn(20)), 1+rng.Intn(4))
		rows, clashes, err := ll.Make(g)
		if err == api.OK && len(clashes) == 0 {
			return g, rows
		}
	}
}

// never stands for the size of a tree that there is not.
const never = 1 << 20

// leastSizes has of each production how many nodes its least tree has.
func leastSizes(g api.Grammar) []int {
	of := slices.Repeat([]int{never}, len(g.Prods))
	for range len(g.Prods) + 1 {
		for n, p := range g.Prods {
			size := 1
			for _, s := range p.Body {
				least := 1
				if s.Kind == api.Non {
					least = never
				}
				for m, q := range g.Prods {
					if s == non(q.Head) {
						least = min(least, of[m])
					}
				}
				size += least
			}
			of[n] = min(size, never)
		}
	}
	return of
}

// nonsOf is how many nonterminals the Body of p has.
func nonsOf(p api.Prod) int {
	n := 0
	for _, s := range p.Body {
		if s.Kind == api.Non {
			n++
		}
	}
	return n
}

// grown has the events from the top of a tree of g, if it has one: up to some number of nodes, and down to some depth, it grows as it
// likes (or as much as it can, eager times of ten), and beyond that it ends as soon as it can.
func grown(rng *rand.Rand, g api.Grammar, nodes, depth, eager int) []api.Event {
	sizes := leastSizes(g)
	var l []api.Event
	tokens := 0
	var grow func(s api.Sym, deep int)
	grow = func(s api.Sym, deep int) {
		nodes--
		if s.Kind == api.Term {
			l = append(l, had(tokens))
			tokens++
			return
		}
		var may []int
		for n, p := range g.Prods {
			if p.Head == s.N && sizes[n] < never {
				may = append(may, n)
			}
		}
		n := may[rng.Intn(len(may))]
		if rng.Intn(10) < eager {
			n = slices.MaxFunc(may, func(a, b int) int { return nonsOf(g.Prods[a]) - nonsOf(g.Prods[b]) })
		}
		if nodes < 0 || deep > depth {
			n = slices.MinFunc(may, func(a, b int) int { return sizes[a] - sizes[b] })
		}
		l = append(l, opened(n))
		for _, below := range g.Prods[n].Body {
			grow(below, deep+1)
		}
		l = append(l, closed(n))
	}
	for n, p := range g.Prods {
		if p.Head == 0 && sizes[n] < 3000 {
			grow(non(0), 1)
			break
		}
	}
	return l
}

// yield has the terminals that a tree's events have.
func yield(g api.Grammar, l []api.Event) []int {
	var word []int
	var open [][]api.Sym
	take := func() {
		if i := len(open) - 1; i >= 0 {
			open[i] = open[i][1:]
		}
	}
	for _, e := range l {
		switch e.Kind {
		case api.EOpen:
			take()
			open = append(open, g.Prods[e.N].Body)
		case api.EToken:
			word = append(word, open[len(open)-1][0].N)
			take()
		case api.EClose:
			open = open[:len(open)-1]
		}
	}
	return word
}

// within has those of a tree's events that are told ahead of the token (or the end) at which there would be too much (all, if there is
// no such), and how many tokens come ahead of it.
func within(g api.Grammar, l []api.Event) ([]api.Event, int, api.Errno) {
	from, size, tokens := 0, 1, 0
	for i, e := range l {
		// The ends behind a token are its own acts.
		if i > 0 && e.Kind != api.EClose && slices.ContainsFunc(l[from:i], func(e api.Event) bool { return e.Kind == api.EToken }) {
			from = i
			tokens++
		}
		size--
		if e.Kind == api.EOpen {
			size += len(g.Prods[e.N].Body) + 1
		}
		if size > 60 || i-from >= 2000 {
			return l[:from], tokens, api.ErrStack
		}
	}
	return l, len(yield(g, l)), api.OK
}

// Of greater grammars without a Clash, too, as long as acts and Todo stay within the bounds.
func TestP46TreesThatAreGrown(t *testing.T) {
	rng := rand.New(rand.NewSource(47))
	whole, broke, great := 0, 0, 0
	for range 12000 {
		g, rows := without(rng)
		l := grown(rng, g, rng.Intn(1+rng.Intn(3000)), rng.Intn(70), rng.Intn(11))
		if l == nil {
			continue
		}
		word := yield(g, l)
		want, at, wrong := within(g, l)
		events, place, err := told(g, rows, word)
		if !slices.Equal(events, want) || err != wrong || place != at {
			t.Fatalf("%s, %v: %s %d at %d, not %s %d at %d", show(g), word, show(events), err, place, show(want), wrong, at)
		}
		if err != api.OK {
			broke++
			continue
		}
		whole++
		if len(l) > 200 {
			great++
		}
		if x, err := trees.OfDown(g, events); err == api.OK {
			if y, err := trees.Yield(g, x); !slices.Equal(y, word) || err != api.OK {
				t.Fatalf("%s, %v: a tree of %v %d", show(g), word, y, err)
			}
		} else if err == api.ErrForm {
			t.Fatalf("%s, %v: %s are of no tree", show(g), word, show(events))
		}
	}
	if whole < 5000 || broke < 200 || great < 100 {
		t.Errorf("only %d were whole, %d broken, %d great", whole, broke, great)
	}
}

// Of greater grammars without a Clash, where each nonterminal makes a word, whatever comes.
func TestP46WordsAreRefusedAtOnce(t *testing.T) {
	rng := rand.New(rand.NewSource(48))
	words, others := 0, 0
	for range 3000 {
		g, rows := without(rng)
		l := grown(rng, g, rng.Intn(30), 30, 2)
		if !eachMakes(g) || l == nil {
			continue
		}
		word := yield(g, l)
		for range rng.Intn(3) {
			i := rng.Intn(len(word) + 1)
			word = slices.Concat(word[:i], []int{rng.Intn(g.Terms)}, word[min(len(word), i+rng.Intn(2)):])
		}
		if len(word) > 20 {
			word = word[:20]
		}
		if n, _ := count.Trees(g, word); n == 1 {
			tellsTree(t, g, rows, word)
			words++
		} else {
			refusesAtOnce(t, g, rows, word)
			others++
		}
	}
	if words < 300 || others < 300 {
		t.Errorf("only %d words, %d others", words, others)
	}
}
