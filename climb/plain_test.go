package climb_test

import (
	"fmt"
	"math"
	"math/rand"
	"slices"
	"strconv"
	"testing"

	"pushmill/api"
	"pushmill/cfg"
	"pushmill/climb"
	"pushmill/ll"
)

// What follows makes grammars, rows and climbers, and reads the chapter otherwise than the program does.

func term(n int) api.Sym { return api.Sym{Kind: api.Term, N: n} }

func non(n int) api.Sym { return api.Sym{Kind: api.Non, N: n} }

func prod(head int, body ...api.Sym) api.Prod { return api.Prod{Head: head, Body: body} }

func grammar(terms, nons int, prods ...api.Prod) api.Grammar {
	return api.Grammar{Terms: terms, Nons: nons, Prods: prods}
}

func symbol(s api.Sym) api.Todo { return api.Todo{Sym: s} }

func closing(n int) api.Todo { return api.Todo{Close: true, N: n} }

// ahead is a climber that has these to do, the next one first.
func ahead(seen int, todo ...api.Todo) api.Climber {
	l := slices.Clone(todo)
	slices.Reverse(l)
	return api.Climber{Todo: l, Seen: seen}
}

func opened(n int) api.Event { return api.Event{Kind: api.EOpen, N: n} }

func had(n int) api.Event { return api.Event{Kind: api.EToken, N: n} }

func closed(n int) api.Event { return api.Event{Kind: api.EClose, N: n} }

// broken is a climber that has come to this error.
func broken(seen int, err api.Errno) api.Climber { return api.Climber{Seen: seen, Over: err} }

// done is a climber that has come to its end.
func done(seen int) api.Climber { return api.Climber{Seen: seen, Done: true} }

// brackets are pairs of t0 and t1, one within the other.
func brackets() api.Grammar {
	return grammar(2, 1, prod(0), prod(0, term(0), non(0), term(1)))
}

// must is the grammar of a text.
func must(t *testing.T, s string) api.Grammar {
	t.Helper()
	g, at, err := cfg.Read(s)
	if err != api.OK {
		t.Fatalf("Read(%q): %d %d", s, at, err)
	}
	return g
}

// rowsOf are those that g has without a Clash.
func rowsOf(t *testing.T, g api.Grammar) [][]int {
	t.Helper()
	rows, clashes, err := ll.Make(g)
	if len(clashes) > 0 || err != api.OK {
		t.Fatalf("Make(%s): %v %d", show(g), clashes, err)
	}
	return rows
}

// show tells of a thing, which may be great.
func show(thing any) string {
	s := fmt.Sprint(thing)
	if len(s) > 1500 {
		s = s[:1500] + fmt.Sprintf("... (of %d bytes)", len(s))
	}
	return s
}

// texts writes what is to be done as texts, the next one first: n, t or c (the end of a production), and a number.
func texts(l []api.Todo) []string {
	var s []string
	for _, t := range slices.Backward(l) {
		switch {
		case t.Close:
			s = append(s, "c"+strconv.Itoa(t.N))
		case t.Sym.Kind == api.Term:
			s = append(s, "t"+strconv.Itoa(t.Sym.N))
		default:
			s = append(s, "n"+strconv.Itoa(t.Sym.N))
		}
	}
	return s
}

// todos reads what texts wrote.
func todos(l []string) []api.Todo {
	var todo []api.Todo
	for _, s := range slices.Backward(l) {
		n := numberOf(s)
		todo = append(todo, map[string]api.Todo{"c": closing(n), "t": symbol(term(n)), "n": symbol(non(n))}[s[:1]])
	}
	return todo
}

// step is an act that was done: its event, and how much there was to do behind it.
type step struct {
	event api.Event
	size  int
}

// plainSteps goes on as if there were no bounds, but for a little more than these, and tells what is left; it is stuck where no act can
// be done.
func plainSteps(g api.Grammar, rows [][]int, todo []string, seen int, column string, stops func(steps []step, todo []string) bool) ([]step, []string, bool) {
	var steps []step
	for len(steps) < 2003 && len(todo) < 70 && !stops(steps, todo) {
		if len(todo) == 0 {
			return steps, nil, true
		}
		first := todo[0]
		n := numberOf(first)
		todo = todo[1:]
		switch {
		case first[0] == 'c':
			steps = append(steps, step{closed(n), len(todo)})
		case first == column:
			steps = append(steps, step{had(seen), len(todo)})
		case first[0] == 't':
			return steps, nil, true
		default:
			taken := rows[n][g.Terms]
			if column != "" {
				taken = rows[n][numberOf(column)]
			}
			if taken < 0 {
				return steps, nil, true
			}
			var body []api.Todo
			for _, s := range g.Prods[taken].Body {
				body = append(body, symbol(s))
			}
			slices.Reverse(body)
			todo = slices.Concat(texts(body), []string{"c" + strconv.Itoa(taken)}, todo)
			steps = append(steps, step{opened(taken), len(todo)})
		}
	}
	return steps, todo, false
}

// numberOf is the number behind the letter of a text.
func numberOf(s string) int {
	n, _ := strconv.Atoi(s[1:])
	return n
}

// hasCome: was the token had, and is no end of a production next?
func hasCome(steps []step, todo []string) bool {
	tokens := slices.ContainsFunc(steps, func(s step) bool { return s.event.Kind == api.EToken })
	return tokens && (len(todo) == 0 || todo[0][0] != 'c')
}

// isEmpty: is nothing left?
func isEmpty(_ []step, todo []string) bool { return len(todo) == 0 }

// judged is what some steps come to: their events, or the first thing that went wrong.
func judged(steps []step, stuck bool) ([]api.Event, api.Errno) {
	var l []api.Event
	for i, s := range steps {
		if i == 2000 || s.size > 60 {
			return nil, api.ErrStack
		}
		l = append(l, s.event)
	}
	if stuck {
		return nil, api.ErrToken
	}
	return l, api.OK
}

// plainWrong is what is wrong ahead of any act, a terminal that comes being right.
func plainWrong(g api.Grammar, rows [][]int, c api.Climber) api.Errno {
	if err := ll.Check(g, rows); err != api.OK {
		return err
	}
	right := choices(g)
	for _, t := range c.Todo {
		if !slices.Contains(right, t) {
			return api.ErrArg
		}
	}
	if len(c.Todo) >= 61 || c.Seen <= -1 || c.Seen >= 1<<40+1 {
		return api.ErrArg
	}
	if c.Done || c.Over != 0 {
		return api.ErrOver
	}
	return api.OK
}

// plainPush is what Push must answer.
func plainPush(g api.Grammar, rows [][]int, c api.Climber, n int) (api.Climber, []api.Event, api.Errno) {
	err := plainWrong(g, rows, c)
	if (err == api.OK || err == api.ErrOver) && !slices.Contains(symbols(g.Terms, 0), term(n)) {
		err = api.ErrArg
	}
	if err != api.OK {
		return c, nil, err
	}
	steps, left, stuck := plainSteps(g, rows, texts(c.Todo), c.Seen, "t"+strconv.Itoa(n), hasCome)
	l, err := judged(steps, stuck)
	if err != api.OK {
		return broken(c.Seen, err), nil, err
	}
	return api.Climber{Todo: todos(left), Seen: c.Seen + 1}, l, api.OK
}

// plainEnd is what End must answer.
func plainEnd(g api.Grammar, rows [][]int, c api.Climber) (api.Climber, []api.Event, api.Errno) {
	if err := plainWrong(g, rows, c); err != api.OK {
		return c, nil, err
	}
	steps, _, stuck := plainSteps(g, rows, texts(c.Todo), c.Seen, "", isEmpty)
	l, err := judged(steps, stuck)
	if err != api.OK {
		return broken(c.Seen, err), nil, err
	}
	return done(c.Seen), l, api.OK
}

// choices are all that a climber of g may have to do.
func choices(g api.Grammar) []api.Todo {
	var l []api.Todo
	for _, s := range symbols(g.Terms, g.Nons) {
		l = append(l, symbol(s))
	}
	for n := range g.Prods {
		l = append(l, closing(n))
	}
	return l
}

// symbols has the terminals, then the nonterminals.
func symbols(terms, nons int) []api.Sym {
	var l []api.Sym
	for n := range terms {
		l = append(l, term(n))
	}
	for n := range nons {
		l = append(l, non(n))
	}
	return l
}

// lists has all lists of up to so many of these.
func lists[T any](of []T, most int) [][]T {
	l := [][]T{nil}
	for from := 0; most > 0; most-- {
		to := len(l)
		for _, list := range l[from:to] {
			for _, one := range of {
				l = append(l, append(slices.Clone(list), one))
			}
		}
		from = to
	}
	return l
}

// small hands out all grammars with so many terminals and nonterminals that have up to so many productions of up to so many symbols.
func small(terms, nons, prods, width int, each func(g api.Grammar)) {
	var all []api.Prod
	for head := range nons {
		for _, body := range lists(symbols(terms, nons), width) {
			all = append(all, prod(head, body...))
		}
	}
	var add func(g api.Grammar)
	add = func(g api.Grammar) {
		each(g)
		if len(g.Prods) == prods {
			return
		}
		for _, p := range all {
			add(grammar(terms, nons, append(slices.Clone(g.Prods), p)...))
		}
	}
	add(grammar(terms, nons))
}

// mayStand has what may stand in the row of a nonterminal.
func mayStand(g api.Grammar, n int) []int {
	l := []int{-1}
	for i, p := range g.Prods {
		if p.Head == n {
			l = append(l, i)
		}
	}
	return l
}

// allRows hands out all rows of g.
func allRows(g api.Grammar, each func(rows [][]int)) {
	rows := make([][]int, g.Nons)
	for n := range rows {
		rows[n] = make([]int, g.Terms+1)
	}
	var fill func(n, col int)
	fill = func(n, col int) {
		switch {
		case n == g.Nons:
			each(rows)
		case col > g.Terms:
			fill(n+1, 0)
		default:
			for _, number := range mayStand(g, n) {
				rows[n][col] = number
				fill(n, col+1)
			}
		}
	}
	fill(0, 0)
}

// someRows are any of g, with about so many of ten places empty.
func someRows(rng *rand.Rand, g api.Grammar, empty int) [][]int {
	rows := make([][]int, g.Nons)
	for n := range rows {
		may := mayStand(g, n)
		for range g.Terms + 1 {
			number := -1
			if len(may) > 1 && rng.Intn(10) >= empty {
				number = may[1+rng.Intn(len(may)-1)]
			}
			rows[n] = append(rows[n], number)
		}
	}
	return rows
}

// wild is a grammar that is right, with productions no wider than that, and so many of ten symbols terminals.
func wild(rng *rand.Rand, terms, nons, prods, width, often int) api.Grammar {
	g := grammar(terms, nons)
	for range prods {
		p := prod(rng.Intn(nons))
		for range rng.Intn(width + 1) {
			s := non(rng.Intn(nons))
			if terms > 0 && rng.Intn(10) < often {
				s = term(rng.Intn(terms))
			}
			p.Body = append(p.Body, s)
		}
		g.Prods = append(g.Prods, p)
	}
	return g
}

// wildOne is one of any size that there may be.
func wildOne(rng *rand.Rand) api.Grammar {
	return wild(rng, rng.Intn(31), 1+rng.Intn(20), rng.Intn(41), rng.Intn(9), rng.Intn(10))
}

// someClimber is one of g that has up to so many things to do.
func someClimber(rng *rand.Rand, g api.Grammar, most int) api.Climber {
	of := choices(g)
	c := api.Climber{Seen: rng.Intn(1 << 41)}
	if rng.Intn(4) > 0 {
		c.Seen = rng.Intn(5)
	}
	for range rng.Intn(most + 1) {
		c.Todo = append(c.Todo, of[rng.Intn(len(of))])
	}
	return c
}

// edges are numbers at both sides of the bounds.
func edges() []int {
	return []int{math.MinInt, -1 << 40, -2, -1, 0, 1, 2, 3, 7, 8, 9, 19, 20, 21, 29, 30, 31, 39, 40, 41, 60, 61, 1<<32 - 1, 1 << 32, 1<<40 - 1, 1 << 40, 1<<40 + 1, math.MaxInt}
}

// sameClimber: are these the same?
func sameClimber(a, b api.Climber) bool {
	return slices.Equal(a.Todo, b.Todo) && a.Seen == b.Seen && a.Over == b.Over && a.Done == b.Done
}

// pushes: is that what Push answers?
func pushes(t *testing.T, g api.Grammar, rows [][]int, c api.Climber, n int, want api.Climber, events []api.Event, wrong api.Errno) {
	t.Helper()
	d, l, err := climb.Push(g, rows, c, n)
	if !sameClimber(d, want) || !slices.Equal(l, events) || err != wrong {
		t.Fatalf("Push(%s, %s, %s, %d): %s %s %d, not %s %s %d", show(g), show(rows), show(c), n, show(d), show(l), err, show(want), show(events), wrong)
	}
}

// ends: is that what End answers?
func ends(t *testing.T, g api.Grammar, rows [][]int, c api.Climber, want api.Climber, events []api.Event, wrong api.Errno) {
	t.Helper()
	d, l, err := climb.End(g, rows, c)
	if !sameClimber(d, want) || !slices.Equal(l, events) || err != wrong {
		t.Fatalf("End(%s, %s, %s): %s %s %d, not %s %s %d", show(g), show(rows), show(c), show(d), show(l), err, show(want), show(events), wrong)
	}
}

// pushesPlainly: does Push answer as the second reading does? It tells which climber is the next one.
func pushesPlainly(t *testing.T, g api.Grammar, rows [][]int, c api.Climber, n int) (api.Climber, api.Errno) {
	t.Helper()
	want, events, err := plainPush(g, rows, c, n)
	pushes(t, g, rows, c, n, want, events, err)
	return want, err
}

// endsPlainly: does End answer as the second reading does?
func endsPlainly(t *testing.T, g api.Grammar, rows [][]int, c api.Climber) api.Errno {
	t.Helper()
	want, events, err := plainEnd(g, rows, c)
	ends(t, g, rows, c, want, events, err)
	return err
}

// refused: do both calls refuse that with this error, and tell the climber as it was?
func refused(t *testing.T, g api.Grammar, rows [][]int, c api.Climber, n int, want api.Errno) {
	t.Helper()
	pushes(t, g, rows, c, n, c, nil, want)
	ends(t, g, rows, c, c, nil, want)
}
