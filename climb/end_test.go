package climb_test

import (
	"math/rand"
	"slices"
	"testing"

	"pushmill/api"
	"pushmill/climb"
)

func TestP46Brackets(t *testing.T) {
	g := brackets()
	rows := rowsOf(t, g)
	ends(t, g, rows, climb.Begin(), done(0), []api.Event{opened(0), closed(0)}, api.OK)
	ends(t, g, rows, ahead(4), done(4), nil, api.OK)
	ends(t, g, rows, ahead(4, symbol(term(1)), closing(1)), broken(4, api.ErrToken), nil, api.ErrToken)
	ends(t, g, rows, ahead(1, symbol(non(0)), symbol(term(1)), closing(1)), broken(1, api.ErrToken), nil, api.ErrToken)
	refused(t, g, rows, done(4), 0, api.ErrOver)
	refused(t, g, rows, broken(4, api.ErrToken), 0, api.ErrOver)
}

func TestP46KnownActs(t *testing.T) {
	g, _ := all(t)
	rows := [][]int{{5, 5, 5, 0}, {2, 2, 2, 1}, {4, 4, 4, 3}}
	n0, n1, n2, t0 := symbol(non(0)), symbol(non(1)), symbol(non(2)), symbol(term(0))
	c := closing
	type list = []api.Event
	for _, one := range []struct {
		todo   []api.Todo
		events list
		err    api.Errno
	}{
		{nil, nil, 0},
		{[]api.Todo{n1}, list{opened(1), closed(1)}, 0},
		{[]api.Todo{n2}, list{opened(3), opened(1), closed(1), closed(3)}, 0},
		{[]api.Todo{n1, c(0), n2, c(5)}, list{opened(1), closed(1), closed(0), opened(3), opened(1), closed(1), closed(3), closed(5)}, 0},
		{[]api.Todo{c(5), c(4), c(3), c(2), c(1), c(0)}, list{closed(5), closed(4), closed(3), closed(2), closed(1), closed(0)}, 0},
		{[]api.Todo{n0}, nil, api.ErrToken},
		{[]api.Todo{t0}, nil, api.ErrToken},
		{[]api.Todo{n1, n2, c(2), t0}, nil, api.ErrToken},
		{[]api.Todo{n1, t0, n2}, nil, api.ErrToken},
	} {
		want := done(5)
		if one.err != api.OK {
			want = broken(5, one.err)
		}
		ends(t, g, rows, ahead(5, one.todo...), want, one.events, one.err)
	}
}

// What stands at the end counts, and what stands at the terminals does not.
func TestP46RowsAreFollowedAtTheEnd(t *testing.T) {
	g := must(t, "2 1\n0:\n0: t0\n0:\n")
	for _, number := range []int{0, 2} {
		ends(t, g, [][]int{{1, -1, number}}, climb.Begin(), done(0), []api.Event{opened(number), closed(number)}, api.OK)
	}
	ends(t, g, [][]int{{0, 2, -1}}, climb.Begin(), broken(0, api.ErrToken), nil, api.ErrToken)
	ends(t, g, [][]int{{0, 2, 1}}, climb.Begin(), broken(0, api.ErrToken), nil, api.ErrToken)
}

// Todo may come to have 60, not more.
func TestP46TodoBound(t *testing.T) {
	for width := range 9 {
		g := grammar(1, 2, prod(0, slices.Repeat([]api.Sym{non(1)}, width)...), prod(1))
		rows := [][]int{{-1, 0}, {-1, 1}}
		for n := 1; n <= 60; n++ {
			for _, rest := range []api.Todo{closing(1), symbol(non(1)), symbol(term(0))} {
				c := ahead(2, append([]api.Todo{symbol(non(0))}, slices.Repeat([]api.Todo{rest}, n-1)...)...)
				holds(t, g, c, endsPlainly(t, g, rows, c), n+width > 60, n > 1 && rest.Sym.Kind == api.Term)
			}
		}
	}
}

// 2000 acts may be done at the end. When more would be done ahead of a terminal, the token is not what is wrong first.
func TestP46ActsBound(t *testing.T) {
	g, rows := many()
	for acts := 1980; acts <= 2020; acts++ {
		c := ahead(3, making(acts)...)
		holds(t, g, c, endsPlainly(t, g, rows, c), acts > 2000, false)
		for _, next := range []api.Todo{symbol(term(0)), symbol(term(1)), symbol(non(10))} {
			c := ahead(3, append(making(acts), next, closing(3))...)
			holds(t, g, c, endsPlainly(t, g, rows, c), acts > 2000, true)
		}
	}
}

// Just 2000 acts, from the beginning on.
func TestP46ActsFromTheBeginning(t *testing.T) {
	for _, one := range []struct {
		body string
		acts int
		err  api.Errno
	}{
		{"n11 n2", 1998, api.OK}, {"n11 n2 n1", 2000, api.OK}, {"n11 n2 n1 n1", 0, api.ErrStack}, {"n10", 0, api.ErrStack},
		{"n11 n2 n1 t0", 0, api.ErrToken}, {"n11 n2 n1 n1 t0", 0, api.ErrStack}, {"n10 t0", 0, api.ErrStack},
	} {
		g, rows := manyFromTheBeginning(t, one.body)
		d, l, err := climb.End(g, rows, climb.Begin())
		if len(l) != one.acts || err != one.err || d.Done != (err == api.OK) || d.Over != one.err || len(d.Todo) > 0 || d.Seen != 0 {
			t.Errorf("%s: %d events, %v %d", one.body, len(l), d, err)
		}
		endsPlainly(t, g, rows, climb.Begin())
	}
}

// At each token, and at the end, the acts are counted anew.
func TestP46ActsAreOfOneToken(t *testing.T) {
	g, rows := manyFromTheBeginning(t, "n11 n2 t0 n11 t0 n10 t0 n11")
	c := climb.Begin()
	for _, want := range []int{1998, 1991} {
		d, l, err := climb.Push(g, rows, c, 0)
		if len(l) != want || err != api.OK {
			t.Fatalf("%v: %d events, %d", c, len(l), err)
		}
		c = d
	}
	pushes(t, g, rows, c, 0, broken(2, api.ErrStack), nil, api.ErrStack)
	c = ahead(3, symbol(non(11)), closing(0))
	if d, l, err := climb.End(g, rows, c); !sameClimber(d, done(3)) || len(l) != 1991 || err != api.OK {
		t.Errorf("%v: %v %d events, %d", c, d, len(l), err)
	}
}

func TestP46Samples(t *testing.T) {
	rng := rand.New(rand.NewSource(46))
	told := map[api.Errno]int{}
	for range 12000 {
		g := wild(rng, rng.Intn(31), 1+rng.Intn(20), rng.Intn(41), rng.Intn(9), rng.Intn(3))
		rows := someRows(rng, g, rng.Intn(2))
		c := someClimber(rng, g, 1+rng.Intn(60))
		c.Todo = slices.DeleteFunc(c.Todo, func(x api.Todo) bool { return x.Sym.Kind == api.Term && rng.Intn(10) > 0 })
		told[endsPlainly(t, g, rows, c)]++
	}
	for _, err := range []api.Errno{api.OK, api.ErrArg, api.ErrToken, api.ErrStack} {
		if told[err] < 500 {
			t.Errorf("told: %v", told)
		}
	}
}
