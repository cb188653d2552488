package climb_test

import (
	"math/rand"
	"slices"
	"testing"

	"pushmill/api"
	"pushmill/climb"
	"pushmill/ll"
)

func TestP45Brackets(t *testing.T) {
	g := brackets()
	rows := rowsOf(t, g)
	one := ahead(1, symbol(non(0)), symbol(term(1)), closing(1))
	pushes(t, g, rows, climb.Begin(), 0, one, []api.Event{opened(1), had(0)}, api.OK)
	two := ahead(2, symbol(non(0)), symbol(term(1)), closing(1), symbol(term(1)), closing(1))
	pushes(t, g, rows, one, 0, two, []api.Event{opened(1), had(1)}, api.OK)
	back := ahead(3, symbol(term(1)), closing(1))
	pushes(t, g, rows, two, 1, back, []api.Event{opened(0), closed(0), had(2), closed(1)}, api.OK)
	pushes(t, g, rows, back, 1, ahead(4), []api.Event{had(3), closed(1)}, api.OK)
	pushes(t, g, rows, one, 1, ahead(2), []api.Event{opened(0), closed(0), had(1), closed(1)}, api.OK)
	pushes(t, g, rows, back, 0, broken(3, api.ErrToken), nil, api.ErrToken)
	pushes(t, g, rows, ahead(4), 0, broken(4, api.ErrToken), nil, api.ErrToken)
	pushes(t, g, rows, climb.Begin(), 1, broken(0, api.ErrToken), nil, api.ErrToken)
}

// all is a grammar with each kind of production, and rows that have each of them, and places that are empty.
func all(t *testing.T) (api.Grammar, [][]int) {
	g := must(t, "3 3\n0: n1 n2 t0\n1:\n1: t1 n2\n2: n1\n2: t2 n1 n2\n0: n0 t2\n")
	return g, [][]int{{0, 0, -1, 5}, {1, 2, 1, 1}, {3, 3, 4, -1}}
}

func TestP45KnownActs(t *testing.T) {
	g, rows := all(t)
	n0, n1, n2, t0, t1, t2 := symbol(non(0)), symbol(non(1)), symbol(non(2)), symbol(term(0)), symbol(term(1)), symbol(term(2))
	c := closing
	type list = []api.Event
	for _, one := range []struct {
		todo   []api.Todo
		term   int
		left   []api.Todo
		events list
		err    api.Errno
	}{
		{[]api.Todo{n0}, 0, nil, list{opened(0), opened(1), closed(1), opened(3), opened(1), closed(1), closed(3), had(5), closed(0)}, 0},
		{[]api.Todo{n0}, 1, []api.Todo{n2, c(2), n2, t0, c(0)}, list{opened(0), opened(2), had(5)}, 0},
		{[]api.Todo{n0}, 2, nil, nil, api.ErrToken},
		{[]api.Todo{n1}, 0, nil, nil, api.ErrToken},
		{[]api.Todo{n1}, 1, []api.Todo{n2, c(2)}, list{opened(2), had(5)}, 0},
		{[]api.Todo{n1, n1}, 1, []api.Todo{n2, c(2), n1}, list{opened(2), had(5)}, 0},
		{[]api.Todo{n2, t1}, 2, []api.Todo{n1, n2, c(4), t1}, list{opened(4), had(5)}, 0},
		{[]api.Todo{n1, n2, t1}, 2, []api.Todo{n1, n2, c(4), t1}, list{opened(1), closed(1), opened(4), had(5)}, 0},
		{[]api.Todo{c(4), c(0), t1}, 1, nil, list{closed(4), closed(0), had(5)}, 0},
		{[]api.Todo{c(4), c(0), t1}, 0, nil, nil, api.ErrToken},
		{[]api.Todo{c(4), c(0)}, 0, nil, nil, api.ErrToken},
		{[]api.Todo{t1, c(4), c(0)}, 1, nil, list{had(5), closed(4), closed(0)}, 0},
		{[]api.Todo{t1, c(4), c(4), n1, c(0)}, 1, []api.Todo{n1, c(0)}, list{had(5), closed(4), closed(4)}, 0},
		{[]api.Todo{t1, n1, c(0)}, 1, []api.Todo{n1, c(0)}, list{had(5)}, 0},
		{[]api.Todo{t1, t1, c(0)}, 1, []api.Todo{t1, c(0)}, list{had(5)}, 0},
		{[]api.Todo{t1, c(3), t1, c(0)}, 1, []api.Todo{t1, c(0)}, list{had(5), closed(3)}, 0},
		{[]api.Todo{t1}, 0, nil, nil, api.ErrToken},
		{[]api.Todo{t2}, 2, nil, list{had(5)}, 0},
		{nil, 2, nil, nil, api.ErrToken},
	} {
		want := ahead(6, one.left...)
		if one.err != api.OK {
			want = broken(5, one.err)
		}
		pushes(t, g, rows, ahead(5, one.todo...), one.term, want, one.events, one.err)
	}
}

// The row's number counts, be it that of ll.Make or not.
func TestP45RowsAreFollowed(t *testing.T) {
	g := must(t, "2 1\n0: t0\n0: t0 t0\n0: t1\n")
	for n, left := range [][]api.Todo{{}, {symbol(term(0)), closing(1)}} {
		events := []api.Event{opened(n), had(0)}
		if n == 0 {
			events = append(events, closed(0))
		}
		pushes(t, g, [][]int{{n, -1, -1}}, climb.Begin(), 0, ahead(1, left...), events, api.OK)
	}
	pushes(t, g, [][]int{{2, 0, 1}}, climb.Begin(), 0, broken(0, api.ErrToken), nil, api.ErrToken)
	pushes(t, g, [][]int{{-1, 2, 1}}, climb.Begin(), 0, broken(0, api.ErrToken), nil, api.ErrToken)
	pushes(t, g, [][]int{{-1, 2, 1}}, climb.Begin(), 1, ahead(1), []api.Event{opened(2), had(0), closed(2)}, api.OK)
}

// Behind an error nothing more comes.
func TestP45AnErrorIsForGood(t *testing.T) {
	g, rows := all(t)
	for _, c := range []api.Climber{ahead(5, symbol(term(1)), symbol(non(0))), ahead(5), ahead(5, symbol(non(0)), closing(0))} {
		d, l, err := climb.Push(g, rows, c, 2)
		if !sameClimber(d, broken(5, api.ErrToken)) || len(l) > 0 || err != api.ErrToken {
			t.Errorf("%v: %v %v %d", c, d, l, err)
		}
		for n := range 3 {
			refused(t, g, rows, d, n, api.ErrOver)
		}
	}
}

// Todo may come to have 60, not more, whatever would come next.
func TestP45TodoBound(t *testing.T) {
	var g api.Grammar
	for width := range 9 {
		for _, first := range []int{0, 1} {
			body := slices.Repeat([]api.Sym{term(first)}, width)
			g = grammar(2, 2, prod(0, body...), prod(1, non(0)))
			rows := [][]int{{0, 0, 0}, {1, 1, 1}}
			for n := 1; n <= 60; n++ {
				rest := slices.Repeat([]api.Todo{symbol(term(first))}, n-1)
				c := ahead(0, append([]api.Todo{symbol(non(0))}, rest...)...)
				_, err := pushesPlainly(t, g, rows, c, 0)
				holds(t, g, c, err, n+width > 60, first == 1 || n+width == 1)
				c = ahead(0, append([]api.Todo{symbol(non(1))}, rest...)...)
				_, err = pushesPlainly(t, g, rows, c, 0)
				holds(t, g, c, err, n+1+width > 60, first == 1 || n+width == 1)
			}
		}
	}
}

// holds: is that error ErrStack just where there would be too many, and else ErrToken where the token can't come?
func holds(t *testing.T, g api.Grammar, c api.Climber, err api.Errno, tooMany, cantCome bool) {
	t.Helper()
	want := api.OK
	switch {
	case tooMany:
		want = api.ErrStack
	case cantCome:
		want = api.ErrToken
	}
	if err != want {
		t.Fatalf("%s, %s: %d, not %d", show(g), show(c), err, want)
	}
}

// Each pair within a pair has two more to do behind it, and for some time four.
func TestP45BracketsWithinBrackets(t *testing.T) {
	g := brackets()
	rows := rowsOf(t, g)
	c := climb.Begin()
	for i := range 29 {
		want := append([]api.Todo{symbol(non(0))}, slices.Repeat([]api.Todo{symbol(term(1)), closing(1)}, i+1)...)
		pushes(t, g, rows, c, 0, ahead(i+1, want...), []api.Event{opened(1), had(i)}, api.OK)
		c = ahead(i+1, want...)
	}
	pushes(t, g, rows, c, 0, broken(29, api.ErrStack), nil, api.ErrStack)
	left := slices.Repeat([]api.Todo{symbol(term(1)), closing(1)}, 28)
	pushes(t, g, rows, c, 1, ahead(30, left...), []api.Event{opened(0), closed(0), had(29), closed(1)}, api.OK)
}

// What would go on and on is too much at some time.
func TestP45LeftRecursion(t *testing.T) {
	for _, s := range []string{"1 1\n0: n0 t0\n0: t0\n", "1 1\n0: n0\n", "1 1\n0: n0 n0\n", "1 2\n0: n1\n1: n0\n", "1 2\n0: n1 n0\n1:\n"} {
		g := must(t, s)
		rows := make([][]int, g.Nons)
		for n := range rows {
			rows[n] = []int{n, n}
		}
		pushes(t, g, rows, climb.Begin(), 0, broken(0, api.ErrStack), nil, api.ErrStack)
		ends(t, g, rows, climb.Begin(), broken(0, api.ErrStack), nil, api.ErrStack)
	}
}

// many is a grammar in which the nonterminal n makes the empty word by 2^(n+2) - 2 acts, but the last one, which makes nothing.
func many() (api.Grammar, [][]int) {
	g := grammar(2, 11, prod(0))
	rows := [][]int{{0, 0, 0}}
	for n := 1; n <= 9; n++ {
		g.Prods = append(g.Prods, prod(n, non(n-1), non(n-1)))
		rows = append(rows, []int{n, n, n})
	}
	return g, append(rows, []int{-1, -1, -1})
}

// making has to do what is done by so many acts, some nonterminals of many and the ends of productions.
func making(acts int) []api.Todo {
	var l []api.Todo
	for n := 9; n >= 0; n-- {
		for one := 1<<(n+2) - 2; acts >= one; acts -= one {
			l = append(l, symbol(non(n)))
		}
	}
	return append(l, slices.Repeat([]api.Todo{closing(3)}, acts)...)
}

// 2000 acts may be done at a token, that of the token and those behind it included.
func TestP45ActsBound(t *testing.T) {
	g, rows := many()
	for behind := range 30 {
		for acts := 1996 - behind; acts <= 2002-behind; acts++ {
			todo := making(acts)
			l := slices.Concat(todo, []api.Todo{symbol(term(0))}, slices.Repeat([]api.Todo{closing(4)}, behind), []api.Todo{symbol(non(0))})
			c := ahead(3, l...)
			d, err := pushesPlainly(t, g, rows, c, 0)
			holds(t, g, c, err, acts+1+behind > 2000, false)
			want := ahead(4, symbol(non(0)))
			if err != api.OK {
				want = broken(3, api.ErrStack)
			}
			if !sameClimber(d, want) {
				t.Fatalf("%d acts, %d behind: %v, not %v", acts, behind, d, want)
			}
		}
	}
}

// A token that can't come when 2000 acts have been done is refused for that; when more would be done ahead, for these.
func TestP45TokenThatCantComeBehindManyActs(t *testing.T) {
	g, rows := many()
	for acts := 1990; acts <= 2010; acts++ {
		for _, next := range [][]api.Todo{nil, {symbol(term(1))}, {symbol(non(10))}, {symbol(non(10)), symbol(term(0)), closing(0)}} {
			c := ahead(3, slices.Concat(making(acts), next)...)
			_, err := pushesPlainly(t, g, rows, c, 0)
			holds(t, g, c, err, acts > 2000, true)
		}
	}
}

// manyFromTheBeginning is a grammar of one terminal whose words begin with that body: n1 makes the empty word by 2 acts, n2 by 6, and so
// on up to n10 by 2046; n11 by 1990.
func manyFromTheBeginning(t *testing.T, body string) (api.Grammar, [][]int) {
	g := must(t, "1 12\n0: "+body+"\n1:\n2: n1 n1\n3: n2 n2\n4: n3 n3\n5: n4 n4\n6: n5 n5\n7: n6 n6\n8: n7 n7\n9: n8 n8\n10: n9 n9\n11: n9 n8 n7 n6 n5 n3\n")
	var rows [][]int
	for n := range 12 {
		rows = append(rows, []int{n, n})
	}
	return g, rows
}

// Just 2000 acts, from the beginning on.
func TestP45ActsFromTheBeginning(t *testing.T) {
	for _, one := range []struct {
		body string
		acts int
	}{{"n11 n2 t0", 1999}, {"n11 n2 n1 t0 t0", 2000}, {"n11 n2 n1 t0", 2001}, {"n11 n2 n1 n1 t0 t0", 2002}, {"n10 t0 t0", 2048}} {
		g, rows := manyFromTheBeginning(t, one.body)
		if made := rowsOf(t, g); made[1][0] != 1 {
			t.Fatalf("%s: %v", show(g), made)
		}
		d, l, err := climb.Push(g, rows, climb.Begin(), 0)
		if one.acts > 2000 {
			pushes(t, g, rows, climb.Begin(), 0, broken(0, api.ErrStack), nil, api.ErrStack)
		} else if len(l) != one.acts || d.Seen != 1 || err != api.OK {
			t.Errorf("%s: %d events, %v %d", one.body, len(l), d, err)
		}
		pushesPlainly(t, g, rows, climb.Begin(), 0)
	}
}

func TestP45SmallRanges(t *testing.T) {
	for _, of := range []struct{ terms, nons, prods, width, todo int }{{1, 1, 2, 2, 3}, {2, 1, 2, 1, 3}, {1, 2, 1, 2, 3}, {1, 2, 2, 1, 2}, {0, 2, 2, 1, 2}} {
		told := map[api.Errno]int{}
		small(of.terms, of.nons, of.prods, of.width, func(g api.Grammar) {
			climbers := lists(choices(g), of.todo)
			allRows(g, func(rows [][]int) {
				for _, todo := range climbers {
					c := api.Climber{Todo: todo, Seen: len(todo)}
					for n := range of.terms {
						_, err := pushesPlainly(t, g, rows, c, n)
						told[err]++
					}
					told[endsPlainly(t, g, rows, c)]++
				}
			})
		})
		if len(told) != 3 || told[api.OK] < 300 || told[api.ErrToken] < 300 || told[api.ErrStack] < 300 {
			t.Errorf("of %v: told %v", of, told)
		}
	}
}

// From the beginning on, token by token, as long as these are taken.
func TestP45SmallRangesOfWords(t *testing.T) {
	for _, of := range []struct{ terms, nons, prods, width, most int }{{1, 1, 3, 2, 6}, {2, 1, 2, 3, 5}, {2, 2, 2, 2, 4}, {1, 2, 3, 2, 4}} {
		longest := 0
		small(of.terms, of.nons, of.prods, of.width, func(g api.Grammar) {
			rows, _, _ := ll.Make(g)
			longest = max(longest, goOn(t, g, rows, climb.Begin(), of.most))
		})
		if longest != of.most {
			t.Errorf("of %v: only %d tokens", of, longest)
		}
	}
}

// goOn pushes all that may come, and tells how many tokens came at most.
func goOn(t *testing.T, g api.Grammar, rows [][]int, c api.Climber, most int) int {
	t.Helper()
	endsPlainly(t, g, rows, c)
	longest := c.Seen
	for n := range g.Terms {
		if d, err := pushesPlainly(t, g, rows, c, n); err == api.OK && c.Seen < most {
			longest = max(longest, goOn(t, g, rows, d, most))
		}
	}
	return longest
}

func TestP45Samples(t *testing.T) {
	rng := rand.New(rand.NewSource(45))
	told := map[api.Errno]int{}
	for range 12000 {
		g := wildOne(rng)
		rows := someRows(rng, g, rng.Intn(10))
		c := someClimber(rng, g, 60)
		if rng.Intn(4) == 0 {
			c.Todo = slices.Concat(c.Todo, c.Todo, c.Todo, c.Todo, c.Todo)
			c.Todo = c.Todo[:min(len(c.Todo), 57+rng.Intn(4))]
		}
		for range 10 {
			told[endsPlainly(t, g, rows, c)]++
			if g.Terms == 0 {
				break
			}
			n := rng.Intn(g.Terms)
			if l := texts(c.Todo); len(l) > 0 && l[0][0] == 't' && rng.Intn(8) > 0 {
				n = numberOf(l[0])
			}
			d, err := pushesPlainly(t, g, rows, c, n)
			told[err]++
			if err != api.OK {
				break
			}
			c = d
		}
	}
	for _, err := range []api.Errno{api.OK, api.ErrArg, api.ErrToken, api.ErrStack} {
		if told[err] < 1000 {
			t.Errorf("told: %v", told)
		}
	}
}
