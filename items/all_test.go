package items_test

import (
	"fmt"
	"math/rand"
	"slices"
	"strings"
	"testing"

	"pushmill/api"
	"pushmill/facts"
	"pushmill/items"
)

func TestP36KnownAutomata(t *testing.T) {
	type states = [][]api.Item
	type next = [][]int
	for _, c := range []struct {
		text string
		want api.Auto
	}{
		{"1 1\n0: n0 t0\n0: t0\n", api.Auto{
			States: states{
				list(0, 0, 0, 0, 0, 1, 1, 0, 0, 1, 0, 1, 2, 0, 1),
				list(1, 1, 0, 1, 1, 1),
				list(0, 1, 0, 0, 1, 1, 2, 1, 1),
				list(0, 2, 0, 0, 2, 1),
			},
			Next: next{{1, 2}, {-1, -1}, {3, -1}, {-1, -1}},
		}},
		// Nothing is made, but the nonterminal 0 may be had.
		{"0 1\n", api.Auto{States: states{list(0, 0, 0), list(0, 1, 0)}, Next: next{{1}, {-1}}}},
		{"2 2\n", api.Auto{States: states{list(0, 0, 2), list(0, 1, 2)}, Next: next{{-1, -1, 1, -1}, {-1, -1, -1, -1}}}},
		{"0 1\n0:\n", api.Auto{States: states{list(0, 0, 0, 1, 0, 0), list(1, 1, 0)}, Next: next{{1}, {-1}}}},
		{"0 1\n0: n0\n", api.Auto{States: states{list(0, 0, 0, 1, 0, 0), list(0, 1, 0, 1, 1, 0)}, Next: next{{1}, {-1}}}},
		// Pairs of brackets: within one another is closed by t1, the outermost ends at the end; a state leads to itself.
		{"2 1\n0:\n0: t0 n0 t1\n", api.Auto{
			States: states{
				list(0, 0, 2, 1, 0, 2, 2, 0, 2),
				list(0, 0, 1, 1, 0, 1, 1, 1, 2),
				list(2, 1, 2),
				list(0, 0, 1, 1, 0, 1, 1, 1, 1),
				list(1, 2, 2),
				list(1, 2, 1),
				list(1, 3, 2),
				list(1, 3, 1),
			},
			Next: next{{1, -1, 2}, {3, -1, 4}, {-1, -1, -1}, {3, -1, 5}, {-1, 6, -1}, {-1, 7, -1}, {-1, -1, -1}, {-1, -1, -1}},
		}},
		// Two of a kind, the first one with either behind it, the second one with the end.
		{"2 2\n0: n1 n1\n1: t0 n1\n1: t1\n", api.Auto{
			States: states{
				list(0, 0, 2, 1, 0, 0, 1, 0, 1, 2, 0, 0, 2, 0, 1, 3, 0, 2),
				list(1, 0, 0, 1, 0, 1, 1, 1, 0, 1, 1, 1, 2, 0, 0, 2, 0, 1),
				list(2, 1, 0, 2, 1, 1),
				list(3, 1, 2),
				list(0, 1, 2, 1, 0, 2, 2, 0, 2),
				list(1, 2, 0, 1, 2, 1),
				list(1, 0, 2, 1, 1, 2, 2, 0, 2),
				list(2, 1, 2),
				list(0, 2, 2),
				list(1, 2, 2),
			},
			Next: next{{1, 2, 3, 4}, {1, 2, -1, 5}, {-1, -1, -1, -1}, {-1, -1, -1, -1}, {6, 7, -1, 8},
				{-1, -1, -1, -1}, {6, 7, -1, 9}, {-1, -1, -1, -1}, {-1, -1, -1, -1}, {-1, -1, -1, -1}},
		}},
		// The terminals come ahead of the nonterminals, each by their numbers, in whatever order the productions stand.
		{"2 3\n0: n2\n0: n1\n0: t1\n0: t0\n1:\n2:\n", api.Auto{
			States: states{
				list(0, 0, 2, 1, 0, 2, 2, 0, 2, 3, 0, 2, 4, 0, 2, 5, 0, 2, 6, 0, 2),
				list(3, 1, 2), list(2, 1, 2), list(6, 1, 2), list(1, 1, 2), list(0, 1, 2),
			},
			Next: append(next{{1, 2, 3, 4, 5}}, slices.Repeat(next{{-1, -1, -1, -1, -1}}, 5)...),
		}},
		// Behind what makes nothing: it may not be begun, but it may be had.
		{"1 2\n0: n1 t0\n", api.Auto{
			States: states{list(0, 0, 1, 1, 0, 1), list(1, 1, 1), list(0, 1, 1), list(0, 2, 1)},
			Next:   next{{-1, 1, 2}, {-1, -1, -1}, {3, -1, -1}, {-1, -1, -1}},
		}},
		// What is never come to has no item.
		{"1 2\n0: t0\n1: n0 t0\n", api.Auto{
			States: states{list(0, 0, 1, 2, 0, 1), list(0, 1, 1), list(2, 1, 1)},
			Next:   next{{1, 2, -1}, {-1, -1, -1}, {-1, -1, -1}},
		}},
	} {
		leads(t, must(t, c.text), c.want)
	}
}

// How many states grammars have of which that is well known.
func TestP36HowManyStates(t *testing.T) {
	for _, c := range []struct {
		text string
		want int
	}{
		{"1 1\n0: n0 t0\n0: t0\n", 4},
		{"2 2\n0: n1 n1\n1: t0 n1\n1: t1\n", 10},
		// Sums and products with brackets.
		{"5 3\n0: n0 t0 n1\n0: n1\n1: n1 t1 n2\n1: n2\n2: t2 n0 t3\n2: t4\n", 22},
		// Values are put at places: t0 puts, t1 is what a value points to, t2 a name.
		{"3 3\n0: n1 t0 n2\n0: n2\n1: t1 n2\n1: t2\n2: n1\n", 14},
		// By states that know less (LALR) it would be no LR(1) grammar.
		{"5 3\n0: t0 n1 t3\n0: t1 n2 t3\n0: t0 n2 t4\n0: t1 n1 t4\n1: t2\n2: t2\n", 14},
	} {
		a, err := items.All(must(t, c.text))
		if len(a.States) != c.want || len(a.Next) != c.want || err != api.OK {
			t.Errorf("All of %q: %d states, %d rows, %d, not %d", c.text, len(a.States), len(a.Next), err, c.want)
		}
	}
}

// forked has a state for each of its symbols, and two more: its productions differ from the first symbol on.
func forked(count int) api.Grammar {
	g := grammar(30, 1)
	for n := 0; count > 0; n++ {
		body := []api.Sym{term(n)}
		for len(body) < min(8, count) {
			body = append(body, term(len(body)))
		}
		g.Prods = append(g.Prods, prod(0, body...))
		count -= len(body)
	}
	return g
}

func TestP36TheMostStates(t *testing.T) {
	for _, count := range []int{1, 2, 100, 190, 197, 198} {
		g := forked(count)
		a, err := items.All(g)
		if len(a.States) != count+2 || len(a.Next) != count+2 || err != api.OK {
			t.Fatalf("All(%s): %d states, %d rows, %d, not %d", show(g), len(a.States), len(a.Next), err, count+2)
		}
		want, _ := readingOf(g).automaton(200)
		leads(t, g, want)
	}
	for count := 199; count <= 240; count++ {
		allFails(t, forked(count), api.ErrStates)
	}
}

// ago has the words of t0 and t1 in which t0 stands so many places ahead of the end: a state must know of all of these places which symbol came there.
func ago(places int) api.Grammar {
	g := grammar(2, places+1, prod(0, term(0), non(0)), prod(0, term(1), non(0)), prod(0, term(0), non(1)))
	for n := 1; n < places; n++ {
		g.Prods = append(g.Prods, prod(n, term(0), non(n+1)), prod(n, term(1), non(n+1)))
	}
	g.Prods = append(g.Prods, prod(places))
	return g
}

// However many states there would be, it ends.
func TestP36TooManyStates(t *testing.T) {
	for places := 1; places <= 4; places++ {
		want, _ := readingOf(ago(places)).automaton(200)
		if len(want.States) < 1<<places {
			t.Errorf("only %d states", len(want.States))
		}
		leads(t, ago(places), want)
	}
	for places := 8; places <= 19; places++ {
		allFails(t, ago(places), api.ErrStates)
	}
}

// heavy has states with thousands of items, more than may be handed in: of each production each place with each Look.
func heavy() api.Grammar {
	g := grammar(30, 1)
	for n := range 30 {
		g.Prods = append(g.Prods, prod(0, append(slices.Repeat([]api.Sym{non(0)}, 7), term(n))...))
	}
	g.Prods = append(g.Prods, slices.Repeat([]api.Prod{prod(0, slices.Repeat([]api.Sym{non(0)}, 8)...)}, 9)...)
	g.Prods = append(g.Prods, prod(0))
	return g
}

// A state may have more items than may be handed in: All does not refuse it, and goes on from it; Closed and Step do.
func TestP36GreatStates(t *testing.T) {
	g := heavy()
	want, err := readingOf(g).automaton(200)
	if err != api.OK {
		t.Fatal(err)
	}
	leads(t, g, want)
	great := 0
	for n, state := range want.States {
		if len(state) <= 4000 {
			continue
		}
		great++
		closedFails(t, g, state, api.ErrLarge)
		if !slices.ContainsFunc(want.Next[n], func(to int) bool { return to >= 0 }) {
			t.Errorf("nothing comes of state %d", n)
		}
	}
	if great < 4 {
		t.Errorf("only %d states are great", great)
	}
}

func TestP36AutomataOfAllSmallGrammars(t *testing.T) {
	most := 0
	each := func(g api.Grammar) {
		want, _ := readingOf(g).automaton(200)
		leads(t, g, want)
		most = max(most, len(want.States))
	}
	small(2, 2, 2, 2, each)
	small(1, 2, 3, 2, each)
	small(2, 2, 3, 1, each)
	small(2, 1, 3, 2, each)
	small(1, 1, 2, 4, each)
	small(0, 3, 2, 2, each)
	if most < 8 {
		t.Errorf("only %d states", most)
	}
}

func TestP36WildAutomata(t *testing.T) {
	rng := rand.New(rand.NewSource(5))
	counts := map[api.Errno]int{}
	many := 0
	for i := range 1500 {
		g := wild(rng, rng.Intn(9), 1+rng.Intn(6), rng.Intn(14), rng.Intn(6), rng.Intn(10))
		if i%15 == 0 {
			g = wildOne(rng)
		}
		want, err := readingOf(g).automaton(200)
		counts[err]++
		if err != api.OK {
			allFails(t, g, err)
			continue
		}
		leads(t, g, want)
		if len(want.States) > 20 {
			many++
		}
	}
	if counts[api.ErrStates] < 5 || many < 100 {
		t.Errorf("told: %v, many states %d times", counts, many)
	}
}

// checkLaws: is the first state that of the WHOLE, does a Step lead where the row says, and is each state come to by a row that is not behind it, a new one as soon as there is one?
func checkLaws(t *testing.T, g api.Grammar, a api.Auto) {
	t.Helper()
	start, _ := items.Closed(g, list(len(g.Prods), 0, g.Terms))
	if len(a.States) == 0 || len(a.States) > 200 || len(a.Next) != len(a.States) || !slices.Equal(a.States[0], start) {
		t.Fatalf("All(%s): %s", show(g), show(a))
	}
	known := 1
	for n, row := range a.Next {
		if len(row) != g.Terms+g.Nons {
			t.Fatalf("All(%s): row %d is %v", show(g), n, row)
		}
		for i, x := range symbols(g) {
			to, err := items.Step(g, a.States[n], x)
			if err == api.ErrLarge {
				continue
			}
			if len(to) == 0 && row[i] == -1 {
				continue
			}
			if row[i] < 1 || row[i] > known || row[i] >= len(a.States) || !slices.Equal(a.States[row[i]], to) {
				t.Fatalf("All(%s): state %d by %v leads to %d, not to %s", show(g), n, x, row[i], show(to))
			}
			known = max(known, row[i]+1)
		}
	}
	seen := map[string]bool{}
	for _, l := range a.States {
		seen[fmt.Sprint(l)] = true
	}
	if known != len(a.States) || len(seen) != known {
		t.Fatalf("All(%s): %d states were come to, %d are different, of %d", show(g), known, len(seen), len(a.States))
	}
}

func TestP36RowsAreSteps(t *testing.T) {
	rng := rand.New(rand.NewSource(6))
	right := 0
	for range 200 {
		g := wildOne(rng)
		a, err := items.All(g)
		if err == api.ErrStates {
			continue
		}
		right++
		checkLaws(t, g, a)
	}
	if right < 100 {
		t.Errorf("only %d automata", right)
	}
}

// begun is a place within a form that comes of the nonterminal 0: what has come ahead of a nonterminal, and what stands behind it.
type begun struct {
	had  []api.Sym
	non  int
	rest []api.Sym
}

// begunOf has all such places with at most so many symbols ahead and behind, by putting in Bodies again and again.
func begunOf(g api.Grammar, had, rest int) []begun {
	l := []begun{{nil, 0, nil}}
	seen := map[string]bool{fmt.Sprint(l[0]): true}
	for i := 0; i < len(l); i++ {
		for _, p := range g.Prods {
			if p.Head != l[i].non {
				continue
			}
			for at, s := range p.Body {
				b := begun{slices.Concat(l[i].had, p.Body[:at]), s.N, slices.Concat(p.Body[at+1:], l[i].rest)}
				if s.Kind != api.Non || len(b.had) > had || len(b.rest) > rest || seen[fmt.Sprint(b)] {
					continue
				}
				seen[fmt.Sprint(b)] = true
				l = append(l, b)
			}
		}
	}
	return l
}

// startsIn has what a form may begin with, as Looks: bodies are put in at its beginning, while it is not longer than most.
func startsIn(g api.Grammar, form []api.Sym, most int) map[int]bool {
	looks := map[int]bool{}
	seen := map[string]bool{}
	var walk func(form []api.Sym)
	walk = func(form []api.Sym) {
		switch {
		case len(form) > most || seen[fmt.Sprint(form)]:
			return
		case len(form) == 0:
			looks[g.Terms] = true
			return
		case form[0].Kind == api.Term:
			looks[form[0].N] = true
			return
		}
		seen[fmt.Sprint(form)] = true
		for _, p := range g.Prods {
			if p.Head == form[0].N {
				walk(slices.Concat(p.Body, form[1:]))
			}
		}
	}
	walk(form)
	return looks
}

// validFor has of each list of symbols, as a text, the items at which one may be behind it.
func validFor(g api.Grammar, had, rest int) map[string]map[api.Item]bool {
	valid := map[string]map[api.Item]bool{}
	put := func(path []api.Sym, it api.Item) {
		name := fmt.Sprint(path)
		if valid[name] == nil {
			valid[name] = map[api.Item]bool{}
		}
		valid[name][it] = true
	}
	whole := len(g.Prods)
	put(nil, item(whole, 0, g.Terms))
	put([]api.Sym{non(0)}, item(whole, 1, g.Terms))
	for _, b := range begunOf(g, had, rest) {
		looks := startsIn(g, b.rest, rest+2)
		for n, p := range g.Prods {
			for dot := range len(p.Body) + 1 {
				for look := range looks {
					if p.Head == b.non {
						put(slices.Concat(b.had, p.Body[:dot]), item(n, dot, look))
					}
				}
			}
		}
	}
	return valid
}

// Where all can be come to, and makes something, the state that some symbols lead to has the items at which one may be behind them: a production has been begun there in a form of the nonterminal 0, and what stands behind it may begin with Look.
func TestP36StatesOfPaths(t *testing.T) {
	tried, paths := 0, 0
	try := func(g api.Grammar, rest int) {
		f, _ := facts.Of(g)
		if slices.Contains(f.Makes, false) || slices.Contains(f.Reach, false) {
			return
		}
		tried++
		a, err := items.All(g)
		if err != api.OK {
			t.Fatalf("All(%s): %d", show(g), err)
		}
		valid := validFor(g, 3, rest)
		for _, path := range smallBodies(g.Terms, g.Nons, 3) {
			state := 0
			for _, x := range path {
				if state >= 0 {
					state = a.Next[state][slices.Index(symbols(g), x)]
				}
			}
			want := valid[fmt.Sprint(path)]
			if state < 0 {
				if len(want) > 0 {
					t.Fatalf("%s: %v leads nowhere, not to %v", show(g), path, want)
				}
				continue
			}
			paths++
			if len(a.States[state]) != len(want) || slices.ContainsFunc(a.States[state], func(it api.Item) bool { return !want[it] }) {
				t.Fatalf("%s: %v leads to %v, not to %v", show(g), path, a.States[state], want)
			}
		}
	}
	small(1, 1, 3, 2, func(g api.Grammar) { try(g, 5) })
	small(2, 1, 2, 3, func(g api.Grammar) { try(g, 8) })
	small(2, 2, 2, 2, func(g api.Grammar) { try(g, 5) })
	small(1, 2, 3, 2, func(g api.Grammar) { try(g, 5) })
	if tried < 1000 || paths < 5000 {
		t.Errorf("only %d grammars were tried, with %d paths", tried, paths)
	}
}

// wordsOf has of each nonterminal the words that are not longer than most, each terminal a byte: Bodies are put in till no word is new.
func wordsOf(g api.Grammar, most int) []map[string]bool {
	made := make([]map[string]bool, g.Nons)
	for n := range made {
		made[n] = map[string]bool{}
	}
	for grown := true; grown; {
		grown = false
		for _, p := range g.Prods {
			for w := range bodyWords(p.Body, made, most) {
				grown = grown || !made[p.Head][w]
				made[p.Head][w] = true
			}
		}
	}
	return made
}

// bodyWords has the words of a Body of which those of its nonterminals are made.
func bodyWords(body []api.Sym, made []map[string]bool, most int) map[string]bool {
	l := map[string]bool{"": true}
	for _, s := range body {
		next := map[string]bool{string(rune('0' + s.N)): true}
		if s.Kind == api.Non {
			next = made[s.N]
		}
		longer := map[string]bool{}
		for x := range l {
			for y := range next {
				if len(x)+len(y) <= most {
					longer[x+y] = true
				}
			}
		}
		l = longer
	}
	return l
}

// acts has what may be done in a state at a terminal or the end: the production that is done, or -1: the terminal is gone over.
func acts(g api.Grammar, a api.Auto, state, col int) []int {
	var l []int
	if col < g.Terms && a.Next[state][col] >= 0 {
		l = append(l, -1)
	}
	for _, it := range a.States[state] {
		body := 1
		if it.Prod < len(g.Prods) {
			body = len(g.Prods[it.Prod].Body)
		}
		if it.Dot == body && it.Look == col {
			l = append(l, it.Prod)
		}
	}
	return l
}

// single: is there nowhere more than one thing to do?
func single(g api.Grammar, a api.Auto) bool {
	for state := range a.States {
		for col := range g.Terms + 1 {
			if len(acts(g, a, state, col)) > 1 {
				return false
			}
		}
	}
	return true
}

// built from below by the states: is word one of the grammar? It is given up behind a thousand acts.
func built(t *testing.T, g api.Grammar, a api.Auto, word string) bool {
	t.Helper()
	stack, rest := []int{0}, word
	for range 1000 {
		col := g.Terms
		if rest != "" {
			col = int(rest[0] - '0')
		}
		l := acts(g, a, stack[len(stack)-1], col)
		switch {
		case len(l) == 0:
			return false
		case l[0] == len(g.Prods):
			return true
		case l[0] < 0:
			stack, rest = append(stack, a.Next[stack[len(stack)-1]][col]), rest[1:]
		default:
			p := g.Prods[l[0]]
			stack = stack[:len(stack)-len(p.Body)]
			stack = append(stack, a.Next[stack[len(stack)-1]][g.Terms+p.Head])
		}
	}
	t.Fatalf("%s: the states lead nowhere at %q", show(g), word)
	return false
}

// allWords has all words of so many terminals that are not longer than most.
func allWords(terms, most int) []string {
	l := []string{""}
	for from := 0; most > 0; most-- {
		to := len(l)
		for _, w := range l[from:to] {
			for n := range terms {
				l = append(l, w+string(rune('0'+n)))
			}
		}
		from = to
	}
	return l
}

// Where there is one thing to do in each state at most, the states build up just the grammar's words.
func TestP36StatesBuildTheWords(t *testing.T) {
	tried, taken := 0, 0
	try := func(g api.Grammar, most int) {
		a, err := items.All(g)
		if err != api.OK || !single(g, a) {
			return
		}
		words := wordsOf(g, most)[0]
		if len(words) > 0 {
			tried++
		}
		for _, w := range allWords(g.Terms, most) {
			if built(t, g, a, w) != words[w] {
				t.Fatalf("%s: of %q %v is told", show(g), w, !words[w])
			}
			if words[w] {
				taken++
			}
		}
	}
	small(2, 2, 2, 2, func(g api.Grammar) { try(g, 4) })
	small(1, 2, 3, 2, func(g api.Grammar) { try(g, 6) })
	small(2, 1, 3, 2, func(g api.Grammar) { try(g, 5) })
	rng := rand.New(rand.NewSource(7))
	for range 5000 {
		try(wild(rng, 3, 4, 3+rng.Intn(5), 3, 6), 5)
	}
	if tried < 1000 || taken < 3000 {
		t.Errorf("only %d grammars were tried, with %d words", tried, taken)
	}
}

// A grammar with other numbers for its terminals has as many states, and the same items but for their Looks.
func TestP36OtherNumbers(t *testing.T) {
	text := "5 3\n0: n0 t0 n1\n0: n1\n1: n1 t1 n2\n1: n2\n2: t2 n0 t3\n2: t4\n"
	turn := strings.NewReplacer("t0", "t4", "t1", "t3", "t3", "t1", "t4", "t0")
	turned := func(l []api.Item) string {
		l = slices.Clone(l)
		for i := range l {
			if l[i].Look < 5 {
				l[i].Look = 4 - l[i].Look
			}
		}
		slices.SortFunc(l, func(a, b api.Item) int {
			return (a.Prod-b.Prod)*1000 + (a.Dot-b.Dot)*100 + a.Look - b.Look
		})
		return fmt.Sprint(l)
	}
	a, _ := items.All(must(t, text))
	b, _ := items.All(must(t, turn.Replace(text)))
	seen := map[string]bool{}
	for _, l := range b.States {
		seen[fmt.Sprint(l)] = true
	}
	for _, l := range a.States {
		if !seen[turned(l)] {
			t.Errorf("%v is not there", turned(l))
		}
	}
	if len(a.States) != len(b.States) || len(seen) != 22 {
		t.Errorf("%d and %d states", len(a.States), len(b.States))
	}
}
