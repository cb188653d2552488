package climb_test

import (
	"math"
	"reflect"
	"slices"
	"testing"

	"pushmill/api"
	"pushmill/climb"
)

func TestP44Begin(t *testing.T) {
	want := api.Climber{Todo: []api.Todo{{Close: false, N: 0, Sym: api.Sym{Kind: 2, N: 0}}}, Seen: 0, Over: 0, Done: false}
	if c := climb.Begin(); !reflect.DeepEqual(c, want) {
		t.Errorf("Begin: %v", c)
	}
}

// wrongTables are grammars and rows that ll.Check refuses, with its error.
func wrongTables() map[api.Errno][]struct {
	g    api.Grammar
	rows [][]int
} {
	wide := grammar(2, 1, prod(0), prod(0, slices.Repeat([]api.Sym{term(0)}, 9)...))
	type table = struct {
		g    api.Grammar
		rows [][]int
	}
	right := [][]int{{1, 0, 0}}
	return map[api.Errno][]table{
		api.ErrLarge: {{wide, right}, {grammar(2, 1, slices.Repeat([]api.Prod{prod(0)}, 41)...), right}},
		api.ErrArg: {
			{grammar(2, 0), nil}, {grammar(-1, 1), right}, {grammar(31, 1), right}, {grammar(2, 21), right},
			{grammar(2, 1, prod(0), prod(1)), right}, {grammar(2, 1, prod(0), prod(0, term(2))), right},
			{brackets(), nil}, {brackets(), [][]int{{1, 0, 0}, {1, 0, 0}}}, {brackets(), [][]int{{1, 0}}}, {brackets(), [][]int{{1, 0, 0, 0}}},
			{brackets(), [][]int{{2, 0, 0}}}, {brackets(), [][]int{{1, 0, -2}}},
		},
	}
}

func TestP44TableErrorComesFirst(t *testing.T) {
	climbers := []api.Climber{
		climb.Begin(), {}, {Over: api.ErrToken}, {Done: true}, ahead(-1), ahead(3, symbol(term(77)), closing(0)),
		{Todo: slices.Repeat(climb.Begin().Todo, 61), Seen: 7, Over: api.ErrStack, Done: true},
	}
	for err, tables := range wrongTables() {
		for _, table := range tables {
			for _, c := range climbers {
				for _, n := range []int{-1, 0, 1, 2} {
					refused(t, table.g, table.rows, c, n, err)
				}
			}
		}
	}
}

func TestP44WrongTodo(t *testing.T) {
	g := must(t, "3 2\n0: t0\n1: t1\n1:\n1: t2\n")
	rows := rowsOf(t, g)
	var wrong, right []api.Todo
	for _, n := range edges() {
		for kind := -2; kind <= 4; kind++ {
			for _, m := range edges() {
				for _, isClose := range []bool{false, true} {
					one := api.Todo{Close: isClose, N: m, Sym: api.Sym{Kind: kind, N: n}}
					isRight := !isClose && m == 0 && (kind == 1 && n >= 0 && n <= 2 || kind == 2 && n >= 0 && n <= 1)
					if isRight || isClose && kind == 0 && n == 0 && m >= 0 && m <= 3 {
						right = append(right, one)
					} else {
						wrong = append(wrong, one)
					}
				}
			}
		}
	}
	if len(right) != 9 {
		t.Fatalf("right: %v", right)
	}
	for _, one := range wrong {
		for _, l := range [][]api.Todo{{one}, {one, symbol(term(0))}, {symbol(term(0)), one}, {closing(3), one, symbol(term(0))}} {
			refused(t, g, rows, ahead(0, l...), 0, api.ErrArg)
		}
	}
	for _, one := range right {
		pushes(t, g, rows, ahead(0, symbol(term(0)), symbol(term(1)), one), 0, ahead(1, symbol(term(1)), one), []api.Event{had(0)}, api.OK)
	}
}

func TestP44NoTodoTooMany(t *testing.T) {
	g := brackets()
	rows := rowsOf(t, g)
	for _, n := range []int{59, 60, 61, 62, 100, 1 << 16} {
		c := ahead(0, slices.Repeat([]api.Todo{symbol(term(1))}, n)...)
		if n > 60 {
			refused(t, g, rows, c, 1, api.ErrArg)
			continue
		}
		pushes(t, g, rows, c, 1, ahead(1, c.Todo[1:]...), []api.Event{had(0)}, api.OK)
		ends(t, g, rows, ahead(0, slices.Repeat([]api.Todo{closing(1)}, n)...), done(0), slices.Repeat([]api.Event{closed(1)}, n), api.OK)
	}
}

func TestP44SeenHasBounds(t *testing.T) {
	g := brackets()
	rows := rowsOf(t, g)
	for _, seen := range edges() {
		c := climb.Begin()
		c.Seen = seen
		if seen < 0 || seen > 1<<40 {
			refused(t, g, rows, c, 0, api.ErrArg)
			continue
		}
		pushes(t, g, rows, c, 0, ahead(seen+1, symbol(non(0)), symbol(term(1)), closing(1)), []api.Event{opened(1), had(seen)}, api.OK)
		ends(t, g, rows, c, done(seen), []api.Event{opened(0), closed(0)}, api.OK)
	}
}

func TestP44WrongTerminal(t *testing.T) {
	for _, terms := range []int{0, 1, 2, 30} {
		g := grammar(terms, 1, prod(0))
		rows := [][]int{slices.Repeat([]int{0}, terms+1)}
		for _, n := range edges() {
			if n < 0 || n >= terms {
				pushes(t, g, rows, climb.Begin(), n, climb.Begin(), nil, api.ErrArg)
				pushes(t, g, rows, ahead(7), n, ahead(7), nil, api.ErrArg)
			} else {
				pushes(t, g, rows, climb.Begin(), n, broken(0, api.ErrToken), nil, api.ErrToken)
				pushes(t, g, rows, ahead(7, symbol(term(n))), n, ahead(8), []api.Event{had(7)}, api.OK)
			}
		}
	}
}

// What is over stays as it was told.
func TestP44OverOrDone(t *testing.T) {
	g := brackets()
	rows := rowsOf(t, g)
	for _, err := range []api.Errno{math.MinInt, -1, 0, 1, 2, 13, 14, 15, 18, 19, math.MaxInt} {
		for _, isDone := range []bool{false, true} {
			if err == api.OK && !isDone {
				continue
			}
			for _, todo := range [][]api.Todo{nil, climb.Begin().Todo, {closing(1)}, slices.Repeat([]api.Todo{symbol(term(1))}, 60)} {
				for _, seen := range []int{0, 7, 1 << 40} {
					refused(t, g, rows, api.Climber{Todo: todo, Seen: seen, Over: err, Done: isDone}, 1, api.ErrOver)
				}
			}
		}
	}
}

// An error of an argument is told even of a climber that is over.
func TestP44WrongArgumentComesAheadOfOver(t *testing.T) {
	g := brackets()
	rows := rowsOf(t, g)
	for _, c := range []api.Climber{{Over: api.ErrToken}, {Over: api.ErrOver}, {Done: true}, {Over: api.ErrStack, Done: true}} {
		for _, n := range []int{-1, 2, 1 << 40, math.MinInt} {
			pushes(t, g, rows, c, n, c, nil, api.ErrArg)
		}
		refused(t, g, rows, c, 0, api.ErrOver)
		long, wrong, early, late := c, c, c, c
		long.Todo = slices.Repeat([]api.Todo{symbol(term(0))}, 61)
		wrong.Todo = []api.Todo{closing(2)}
		early.Seen, late.Seen = -1, 1<<40+1
		for _, d := range []api.Climber{long, wrong, early, late} {
			refused(t, g, rows, d, 0, api.ErrArg)
			refused(t, g, [][]int{{1, 0, 0}}, d, 1, api.ErrArg)
		}
	}
}

// End has no terminal, and so takes what only a terminal could make wrong.
func TestP44EndOfNoTerminals(t *testing.T) {
	g := grammar(0, 1, prod(0))
	pushes(t, g, [][]int{{0}}, climb.Begin(), 0, climb.Begin(), nil, api.ErrArg)
	ends(t, g, [][]int{{0}}, climb.Begin(), done(0), []api.Event{opened(0), closed(0)}, api.OK)
}
