package lr_test

import (
	"fmt"
	"math/rand"
	"slices"
	"testing"

	"pushmill/api"
	"pushmill/facts"
	"pushmill/ll"
	"pushmill/lr"
)

// What follows holds tables against the words of grammars, and knows nothing of items.

// treesOf has of each nonterminal how many trees each word has that is not longer than most, each terminal a byte; 2 stands for more, too. Bodies are put in till nothing is new.
func treesOf(g api.Grammar, most int) []map[string]int {
	made := make([]map[string]int, g.Nons)
	for {
		next := make([]map[string]int, g.Nons)
		for n := range next {
			next[n] = map[string]int{}
		}
		for _, p := range g.Prods {
			for w, count := range bodyTrees(p.Body, made, most) {
				next[p.Head][w] = min(2, next[p.Head][w]+count)
			}
		}
		if fmt.Sprint(made) == fmt.Sprint(next) {
			return made
		}
		made = next
	}
}

// bodyTrees has the words of a Body, with how many choices of trees, of which those of its nonterminals are made.
func bodyTrees(body []api.Sym, made []map[string]int, most int) map[string]int {
	l := map[string]int{"": 1}
	for _, s := range body {
		next := map[string]int{string(rune('0' + s.N)): 1}
		if s.Kind == api.Non {
			next = made[s.N]
		}
		longer := map[string]int{}
		for x, a := range l {
			for y, b := range next {
				if len(x)+len(y) <= most {
					longer[x+y] = min(2, longer[x+y]+a*b)
				}
			}
		}
		l = longer
	}
	return l
}

// allWords has all words of so many terminals that are not longer than most.
func allWords(terms, most int) []string {
	l := []string{""}
	for from := 0; most > 0; most-- {
		to := len(l)
		for _, w := range l[from:to] {
			for n := range terms {
				l = append(l, w+string(rune('0'+n)))
			}
		}
		from = to
	}
	return l
}

// neat: can each nonterminal be come to, and does it make a word?
func neat(g api.Grammar) bool {
	f, err := facts.Of(g)
	return err == api.OK && !slices.Contains(f.Makes, false) && !slices.Contains(f.Reach, false)
}

// place is where a builder is: the states it has come through, the symbols by which it did, and what is ahead.
type place struct {
	states []int
	had    []api.Sym
	rest   string
}

// col is the column of what is next.
func (p place) col(g api.Grammar) int {
	if p.rest == "" {
		return g.Terms
	}
	return int(p.rest[0] - '0')
}

// do is the place behind an act; a reduce must find its Body, and there must be a next state.
func (p place) do(t *testing.T, g api.Grammar, tab api.Table, act api.Act) place {
	t.Helper()
	top := func(l []int) int { return l[len(l)-1] }
	if act.Kind == api.AShift {
		return place{append(slices.Clone(p.states), act.N), append(slices.Clone(p.had), term(p.col(g))), p.rest[1:]}
	}
	by := g.Prods[act.N]
	keep := len(p.had) - len(by.Body)
	if keep < 0 || !slices.Equal(p.had[keep:], by.Body) {
		t.Fatalf("%s: production %d is done behind %v", show(g), act.N, p.had)
	}
	to := tab.Goto[top(p.states[:keep+1])][by.Head]
	if to < 0 {
		t.Fatalf("%s: production %d leads nowhere behind %v", show(g), act.N, p.had)
	}
	return place{append(slices.Clone(p.states[:keep+1]), to), append(slices.Clone(p.had[:keep]), non(by.Head)), p.rest}
}

// built by a table: is word one of the grammar? It is given up behind a thousand acts.
func built(t *testing.T, g api.Grammar, tab api.Table, word string) bool {
	t.Helper()
	p := place{[]int{0}, nil, word}
	for range 1000 {
		act := tab.Acts[p.states[len(p.states)-1]][p.col(g)]
		switch act.Kind {
		case api.ANone:
			return false
		case api.AAccept:
			if !slices.Equal(p.had, []api.Sym{non(0)}) {
				t.Fatalf("%s: %v is the whole", show(g), p.had)
			}
			return true
		}
		p = p.do(t, g, tab, act)
	}
	t.Fatalf("%s: the table leads nowhere at %q", show(g), word)
	return false
}

// A table without a Fight builds up just the grammar's words.
func TestP37TablesBuildTheWords(t *testing.T) {
	tried, taken := 0, 0
	try := func(g api.Grammar, most int) {
		tab, fights, err := lr.Make(g)
		if err != api.OK || len(fights) > 0 {
			return
		}
		words := treesOf(g, most)[0]
		if len(words) > 0 {
			tried++
		}
		taken += len(words)
		for _, w := range allWords(g.Terms, most) {
			if built(t, g, tab, w) != (words[w] > 0) {
				t.Fatalf("%s: of %q %v is told", show(g), w, words[w] == 0)
			}
		}
	}
	small(2, 2, 2, 2, func(g api.Grammar) { try(g, 4) })
	small(1, 2, 3, 2, func(g api.Grammar) { try(g, 6) })
	small(2, 1, 3, 2, func(g api.Grammar) { try(g, 5) })
	rng := rand.New(rand.NewSource(3))
	for range 5000 {
		try(wild(rng, 3, 4, 3+rng.Intn(5), 3, 6), 5)
	}
	if tried < 1000 || taken < 3000 {
		t.Errorf("only %d grammars were tried, with %d words", tried, taken)
	}
}

// builtAnyhow: is there any choice of acts, of the table's and of the Fights', by which word is built, with no more than so many states at a time?
func builtAnyhow(t *testing.T, g api.Grammar, tab api.Table, fights []api.Fight, word string, deep int) bool {
	t.Helper()
	l := []place{{[]int{0}, nil, word}}
	seen := map[string]bool{}
	for i := 0; i < len(l); i++ {
		state, col := l[i].states[len(l[i].states)-1], l[i].col(g)
		acts := []api.Act{tab.Acts[state][col]}
		for _, f := range fights {
			if f.State == state && f.Col == col {
				acts = append(acts, f.B)
			}
		}
		for _, act := range acts {
			if act.Kind == api.AAccept {
				return true
			}
			if act.Kind == api.ANone {
				continue
			}
			next := l[i].do(t, g, tab, act)
			if name := fmt.Sprint(next.states, next.rest); len(next.states) <= deep && !seen[name] {
				seen[name] = true
				l = append(l, next)
			}
		}
	}
	return false
}

// With what the Fights tell beside it, a table builds up just the grammar's words, whatever the grammar.
func TestP37ActsAndFightsBuildTheWords(t *testing.T) {
	tried, taken := 0, 0
	try := func(g api.Grammar, most int) {
		tab, fights, err := lr.Make(g)
		if err != api.OK || len(fights) == 0 {
			return
		}
		tried++
		words := treesOf(g, most)[0]
		taken += len(words)
		for _, w := range allWords(g.Terms, most) {
			if builtAnyhow(t, g, tab, fights, w, 12) != (words[w] > 0) {
				t.Fatalf("%s: of %q %v is told", show(g), w, words[w] == 0)
			}
		}
	}
	small(1, 1, 3, 2, func(g api.Grammar) { try(g, 4) })
	small(2, 1, 2, 3, func(g api.Grammar) { try(g, 3) })
	small(2, 2, 2, 2, func(g api.Grammar) { try(g, 4) })
	rng := rand.New(rand.NewSource(4))
	for range 4000 {
		try(wild(rng, 2, 3, 3+rng.Intn(4), 3, 6), 4)
	}
	if tried < 1000 || taken < 3000 {
		t.Errorf("only %d grammars were tried, with %d words", tried, taken)
	}
}

// Of a word with two trees there is a Fight somewhere, whatever else the grammar has.
func TestP37TwoTreesMakeAFight(t *testing.T) {
	tried := 0
	try := func(g api.Grammar, most int) {
		for w, count := range treesOf(g, most)[0] {
			if count < 2 {
				continue
			}
			tried++
			if _, fights, err := lr.Make(g); err == api.OK && len(fights) == 0 {
				t.Fatalf("Make(%s): no Fight, but %q has two trees", show(g), w)
			}
			return
		}
	}
	small(2, 2, 2, 2, func(g api.Grammar) { try(g, 4) })
	small(1, 2, 3, 2, func(g api.Grammar) { try(g, 4) })
	small(2, 1, 3, 2, func(g api.Grammar) { try(g, 4) })
	rng := rand.New(rand.NewSource(5))
	for range 3000 {
		try(wild(rng, 3, 3, 3+rng.Intn(5), 3, 6), 4)
	}
	if tried < 1000 {
		t.Errorf("only %d grammars were tried", tried)
	}
}

// A neat grammar without a Clash has no Fight, either.
func TestP37NoClashNoFight(t *testing.T) {
	tried, only := 0, 0
	try := func(g api.Grammar) {
		_, clashes, err := ll.Make(g)
		if err != api.OK || !neat(g) {
			return
		}
		_, fights, err := lr.Make(g)
		switch {
		case err == api.ErrStates:
		case len(clashes) > 0 && len(fights) == 0:
			only++
		case len(clashes) == 0:
			tried++
			if len(fights) > 0 {
				t.Fatalf("Make(%s): %v, but there is no Clash", show(g), fights)
			}
		}
	}
	small(2, 2, 2, 2, try)
	small(1, 2, 3, 2, try)
	small(2, 1, 3, 2, try)
	rng := rand.New(rand.NewSource(6))
	for range 5000 {
		try(wild(rng, 4, 3, 3+rng.Intn(4), 3, 7))
	}
	if tried < 500 || only < 300 {
		t.Errorf("only %d grammars were without a Clash, %d without a Fight alone", tried, only)
	}
}

// end is a form in which a Body has just been put in for the last nonterminal: where the Body ends, and of which production it is; -1 stands for the whole.
type end struct {
	form []api.Sym
	at   int
	by   int
}

// endsOf has all of these with forms that are not longer than most.
func endsOf(g api.Grammar, most int) []end {
	l := []end{{[]api.Sym{non(0)}, 1, -1}}
	seen := map[string]bool{fmt.Sprint(l[0]): true}
	for i := 0; i < len(l); i++ {
		form := l[i].form
		last := len(form) - 1
		for last >= 0 && form[last].Kind == api.Term {
			last--
		}
		for n, p := range g.Prods {
			if last < 0 || p.Head != form[last].N {
				continue
			}
			e := end{slices.Concat(form[:last], p.Body, form[last+1:]), last + len(p.Body), n}
			if len(e.form) <= most && !seen[fmt.Sprint(e)] {
				seen[fmt.Sprint(e)] = true
				l = append(l, e)
			}
		}
	}
	return l
}

// seenFrom is what one has seen of a form up to a place: the symbols ahead of it, and the terminal there, or the end.
func seenFrom(g api.Grammar, form []api.Sym, at int) string {
	look := g.Terms
	if at < len(form) {
		look = form[at].N
	}
	return fmt.Sprint(form[:at], look)
}

// plainlyLR: is it certain in each of these forms, as soon as the Body's end and one terminal more have been seen, that it is the end of that Body?
func plainlyLR(g api.Grammar, l []end) bool {
	type done struct{ at, by int }
	known := map[string]done{}
	for _, e := range l {
		name := seenFrom(g, e.form, e.at)
		if by, there := known[name]; there && by != (done{e.at, e.by}) {
			return false
		}
		known[name] = done{e.at, e.by}
	}
	for _, e := range l {
		for at := len(e.form); at >= 0; at-- {
			if by, there := known[seenFrom(g, e.form, at)]; there && by != (done{e.at, e.by}) {
				return false
			}
			if at > 0 && e.form[at-1].Kind == api.Non {
				break
			}
		}
	}
	return true
}

// What it is to be LR(1), as its inventor says it of forms and their last steps, on forms of bounded length: just where that does not hold is there a Fight.
func TestP37WithoutAFightItIsLR(t *testing.T) {
	counts := map[bool]int{}
	try := func(g api.Grammar, most int) {
		if !neat(g) {
			return
		}
		_, fights, err := lr.Make(g)
		if err != api.OK {
			t.Fatalf("Make(%s): %d", show(g), err)
		}
		want := plainlyLR(g, endsOf(g, most))
		counts[want]++
		if want != (len(fights) == 0) {
			t.Fatalf("Make(%s): %v, but that it is LR(1) is %v", show(g), fights, want)
		}
	}
	small(1, 1, 3, 2, func(g api.Grammar) { try(g, 6) })
	small(2, 1, 2, 3, func(g api.Grammar) { try(g, 11) })
	small(2, 2, 2, 2, func(g api.Grammar) { try(g, 6) })
	small(1, 2, 3, 2, func(g api.Grammar) { try(g, 11) })
	if counts[true] < 300 || counts[false] < 300 {
		t.Errorf("told: %v", counts)
	}
}
