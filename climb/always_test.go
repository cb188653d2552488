package climb_test

import (
	"math"
	"math/rand"
	"reflect"
	"slices"
	"sync"
	"testing"
	"unsafe"

	"pushmill/api"
	"pushmill/climb"
)

// pick is one of these.
func pick[T any](rng *rand.Rand, of ...T) T { return of[rng.Intn(len(of))] }

// anyGrammar may be right or wrong.
func anyGrammar(rng *rand.Rand) api.Grammar {
	g := wildOne(rng)
	if rng.Intn(12) == 0 {
		g.Terms = pick(rng, edges()...)
	}
	if rng.Intn(12) == 0 {
		g.Nons = pick(rng, edges()...)
	}
	if rng.Intn(12) == 0 {
		g.Prods = slices.Repeat(append(g.Prods, prod(0)), 1+rng.Intn(3))
	}
	if rng.Intn(6) == 0 && len(g.Prods) > 0 {
		p := &g.Prods[rng.Intn(len(g.Prods))]
		switch rng.Intn(3) {
		case 0:
			p.Head = pick(rng, edges()...)
		case 1:
			p.Body = append(slices.Clone(p.Body), api.Sym{Kind: pick(rng, -1, 0, 1, 2, 3), N: pick(rng, edges()...)})
		case 2:
			p.Body = slices.Repeat([]api.Sym{non(0)}, rng.Intn(12))
		}
	}
	return g
}

// anyRows may be right or wrong.
func anyRows(rng *rand.Rand, g api.Grammar) [][]int {
	if g.Terms < 0 || g.Terms > 40 || g.Nons < 0 || g.Nons > 40 {
		return [][]int{{0}, nil, {0, -1}}[:rng.Intn(4)]
	}
	rows := someRows(rng, g, rng.Intn(10))
	if rng.Intn(8) == 0 {
		rows = append(rows, []int{-1})[:rng.Intn(len(rows)+2)]
	}
	if len(rows) > 0 && rng.Intn(8) == 0 {
		row := &rows[rng.Intn(len(rows))]
		*row = append(slices.Clone(*row), pick(rng, edges()...))
		if rng.Intn(2) == 0 {
			*row = (*row)[1:]
		}
	}
	return rows
}

// anyClimber may be right or wrong.
func anyClimber(rng *rand.Rand, g api.Grammar) api.Climber {
	c := climb.Begin()
	if g.Terms >= 0 && g.Terms <= 40 && g.Nons >= 1 && g.Nons <= 40 && rng.Intn(4) > 0 {
		c = someClimber(rng, g, 62)
	}
	if rng.Intn(12) == 0 {
		c.Seen = pick(rng, edges()...)
	}
	if rng.Intn(12) == 0 {
		c.Over = api.Errno(pick(rng, edges()...))
	}
	if rng.Intn(12) == 0 {
		c.Done = true
	}
	if rng.Intn(8) == 0 {
		wrong := api.Todo{Close: rng.Intn(2) == 0, N: pick(rng, edges()...), Sym: api.Sym{Kind: pick(rng, -1, 0, 1, 2, 3), N: pick(rng, edges()...)}}
		c.Todo = slices.Insert(c.Todo, rng.Intn(len(c.Todo)+1), wrong)
	}
	return c
}

// anyTerm may be right or wrong.
func anyTerm(rng *rand.Rand, g api.Grammar) int {
	if g.Terms > 0 && rng.Intn(8) > 0 {
		return rng.Intn(g.Terms)
	}
	return pick(rng, edges()...)
}

func TestP1AnswersWhateverIsGiven(t *testing.T) {
	rng := rand.New(rand.NewSource(11))
	told := map[api.Errno]int{}
	for range 40000 {
		g := anyGrammar(rng)
		rows := anyRows(rng, g)
		c := anyClimber(rng, g)
		_, err := pushesPlainly(t, g, rows, c, anyTerm(rng, g))
		told[err]++
		told[endsPlainly(t, g, rows, c)]++
	}
	for _, err := range []api.Errno{api.OK, api.ErrArg, api.ErrLarge, api.ErrOver, api.ErrToken, api.ErrStack} {
		if told[err] < 500 {
			t.Errorf("told: %v", told)
		}
	}
}

func TestP1HugeThings(t *testing.T) {
	huge := grammar(1, 1, slices.Repeat([]api.Prod{prod(math.MinInt, make([]api.Sym, 1<<16)...)}, 1<<16)...)
	refused(t, huge, nil, climb.Begin(), 0, api.ErrLarge)
	huge.Prods = huge.Prods[:1]
	refused(t, huge, nil, climb.Begin(), 0, api.ErrLarge)
	refused(t, grammar(math.MaxInt, math.MaxInt), nil, climb.Begin(), 0, api.ErrArg)
	refused(t, grammar(math.MinInt, math.MinInt), nil, climb.Begin(), 0, api.ErrArg)
	refused(t, brackets(), make([][]int, 1<<20), climb.Begin(), 0, api.ErrArg)
	refused(t, brackets(), [][]int{make([]int, 1<<20)}, climb.Begin(), 0, api.ErrArg)
	long := api.Climber{Todo: make([]api.Todo, 1<<20), Seen: math.MaxInt, Over: math.MinInt}
	refused(t, brackets(), [][]int{{1, 0, 0}}, long, 0, api.ErrArg)
	long.Todo = slices.Repeat(climb.Begin().Todo, 1<<20)
	refused(t, brackets(), [][]int{{1, 0, 0}}, long, 0, api.ErrArg)
}

// The greatest grammars, in which all makes the empty word or nothing, do not take long, either.
func TestP1GreatestGrammarsEnd(t *testing.T) {
	g := grammar(30, 20)
	for n := range 19 {
		g.Prods = append(g.Prods, prod(n, slices.Repeat([]api.Sym{non(n + 1)}, 8)...), prod(n, slices.Repeat([]api.Sym{non(0)}, 8)...))
	}
	g.Prods = append(g.Prods, prod(19))
	for _, from := range []int{0, 10, 13, 14, 15, 16, 17} {
		var rows [][]int
		for n := range 20 {
			rows = append(rows, slices.Repeat([]int{2 * n}, 31))
		}
		c := ahead(0, symbol(non(from)), symbol(term(29)))
		pushesPlainly(t, g, rows, c, 29)
		endsPlainly(t, g, rows, c)
		rows[from] = slices.Repeat([]int{min(2*from+1, 37)}, 31)
		pushesPlainly(t, g, rows, c, 29)
	}
}

// room is the memory of a list, from its first byte to behind its spare room.
type room struct{ from, to uintptr }

// roomOf has the memory of a list, if it has any.
func roomOf[T any](list []T) []room {
	if cap(list) == 0 {
		return nil
	}
	from := uintptr(unsafe.Pointer(unsafe.SliceData(list)))
	var one T
	return []room{{from, from + uintptr(cap(list))*unsafe.Sizeof(one)}}
}

// givenRooms has the memory of all lists that are handed in.
func givenRooms(g api.Grammar, rows [][]int, c api.Climber) []room {
	l := slices.Concat(roomOf(g.Prods), roomOf(rows), roomOf(c.Todo))
	for _, p := range g.Prods {
		l = append(l, roomOf(p.Body)...)
	}
	for _, row := range rows {
		l = append(l, roomOf(row)...)
	}
	return l
}

// apart: do these share no memory?
func apart(l []room) bool {
	slices.SortFunc(l, func(a, b room) int { return int(a.from) - int(b.from) })
	for i := 1; i < len(l); i++ {
		if l[i-1].to > l[i].from {
			return false
		}
	}
	return true
}

// roomy is a list with spare room behind it, in which spare stands.
func roomy[T any](list []T, spare T) []T {
	l := append(make([]T, 0, len(list)+12), list...)
	_ = append(l, slices.Repeat([]T{spare}, 12)...)
	return l
}

// whole is a list with its spare room as a part of it.
func whole[T any](list []T) []T { return slices.Clone(list[:cap(list)]) }

// roomyGrammar is g with spare room behind each list.
func roomyGrammar(g api.Grammar) api.Grammar {
	prods := make([]api.Prod, len(g.Prods))
	for i, p := range g.Prods {
		prods[i] = prod(p.Head, roomy(p.Body, api.Sym{Kind: 7, N: 77})...)
	}
	return grammar(g.Terms, g.Nons, roomy(prods, prod(77, term(77)))...)
}

// wholeGrammar is g with its spare room as a part of each list.
func wholeGrammar(g api.Grammar) api.Grammar {
	prods := whole(g.Prods)
	for i, p := range prods {
		prods[i].Body = whole(p.Body)
	}
	return grammar(g.Terms, g.Nons, prods...)
}

// roomyRows are rows with spare room behind each list.
func roomyRows(rows [][]int) [][]int {
	l := roomy(rows, []int{77})
	for n, row := range l {
		l[n] = roomy(row, 77)
	}
	return l
}

// wholeRows are rows with their spare room as a part of each list.
func wholeRows(rows [][]int) [][]int {
	l := whole(rows)
	for n, row := range l {
		l[n] = whole(row)
	}
	return l
}

// roomyClimber is c with spare room behind its list.
func roomyClimber(c api.Climber) api.Climber {
	c.Todo = roomy(c.Todo, closing(77))
	return c
}

func TestP2AnswersAreNewMemory(t *testing.T) {
	rng := rand.New(rand.NewSource(12))
	told := map[api.Errno]int{}
	for range 16000 {
		g := roomyGrammar(anyGrammar(rng))
		rows := roomyRows(anyRows(rng, g))
		c := roomyClimber(anyClimber(rng, g))
		n := anyTerm(rng, g)
		a, l, err := climb.Push(g, rows, c, n)
		again, more, _ := climb.Push(g, rows, c, n)
		b, last, _ := climb.End(g, rows, c)
		told[err]++
		if !apart(slices.Concat(givenRooms(g, rows, c), roomOf(a.Todo), roomOf(l), roomOf(again.Todo), roomOf(more), roomOf(b.Todo), roomOf(last))) {
			t.Fatalf("of %s, %s, %s: lists share their memory", show(g), show(rows), show(c))
		}
	}
	for _, err := range []api.Errno{api.OK, api.ErrArg, api.ErrLarge, api.ErrOver, api.ErrToken, api.ErrStack} {
		if told[err] < 100 {
			t.Errorf("told: %v", told)
		}
	}
	if !apart(slices.Concat(roomOf(climb.Begin().Todo), roomOf(climb.Begin().Todo), roomOf(climb.Begin().Todo))) {
		t.Errorf("beginnings share their memory")
	}
}

func TestP2WhatIsHandedInStays(t *testing.T) {
	rng := rand.New(rand.NewSource(13))
	for range 10000 {
		g := anyGrammar(rng)
		rows := anyRows(rng, g)
		c := anyClimber(rng, g)
		given, handed, d := roomyGrammar(g), roomyRows(rows), roomyClimber(c)
		climb.Push(given, handed, d, anyTerm(rng, g))
		climb.End(given, handed, d)
		if !reflect.DeepEqual(wholeGrammar(given), wholeGrammar(roomyGrammar(g))) {
			t.Fatalf("%s is changed", show(g))
		}
		if !slices.EqualFunc(wholeRows(handed), wholeRows(roomyRows(rows)), slices.Equal) {
			t.Fatalf("%s is changed", show(rows))
		}
		if !slices.Equal(whole(d.Todo), whole(roomyClimber(c).Todo)) {
			t.Fatalf("%s is changed", show(c))
		}
	}
}

// Spare room behind a list is no part of it.
func TestP2SpareRoomDoesNotCount(t *testing.T) {
	g, rows := roomyGrammar(brackets()), roomyRows([][]int{{1, 0, 0}})
	one := []api.Todo{symbol(term(0)), symbol(term(1)), closing(77)}
	pushes(t, g, rows, api.Climber{Todo: one[:1]}, 0, ahead(1), []api.Event{had(0)}, api.OK)
	pushes(t, g, rows, api.Climber{Todo: one[:1]}, 1, broken(0, api.ErrToken), nil, api.ErrToken)
	pushes(t, g, rows, api.Climber{Todo: one[:0]}, 0, broken(0, api.ErrToken), nil, api.ErrToken)
	ends(t, g, rows, api.Climber{Todo: one[:0]}, done(0), nil, api.OK)
	refused(t, g, rows, api.Climber{Todo: one}, 0, api.ErrArg)
	long := slices.Repeat([]api.Todo{closing(1)}, 61)
	ends(t, g, rows, api.Climber{Todo: long[:60]}, done(0), slices.Repeat([]api.Event{closed(1)}, 60), api.OK)
	pushes(t, g, rows, api.Climber{Todo: long[:1:1]}, 0, broken(0, api.ErrToken), nil, api.ErrToken)
	row := []int{1, 0, 0, 0}
	refused(t, g, [][]int{row[:3], row}[:1], done(0), 0, api.ErrOver)
	refused(t, g, [][]int{row}, done(0), 0, api.ErrArg)
}

// What is answered stays when what was handed in is changed, and a call does not hang on those ahead of it.
func TestP2NothingIsKept(t *testing.T) {
	g, rows, c := brackets(), [][]int{{1, 0, 0}}, climb.Begin()
	want := ahead(1, symbol(non(0)), symbol(term(1)), closing(1))
	d, l, _ := climb.Push(g, rows, c, 0)
	g.Prods[1].Body[1], rows[0][0], c.Todo[0] = term(1), -1, closing(1)
	if !sameClimber(d, want) || !slices.Equal(l, []api.Event{opened(1), had(0)}) {
		t.Errorf("it is changed: %v %v", d, l)
	}
	pushes(t, g, rows, climb.Begin(), 0, broken(0, api.ErrToken), nil, api.ErrToken)
	pushes(t, brackets(), [][]int{{1, 0, 0}}, climb.Begin(), 0, want, l, api.OK)
	d.Todo[0], l[0] = closing(0), closed(7)
	pushes(t, brackets(), [][]int{{1, 0, 0}}, climb.Begin(), 0, want, []api.Event{opened(1), had(0)}, api.OK)
	over := api.Climber{Todo: []api.Todo{closing(1)}, Over: api.ErrToken}
	same, _, _ := climb.End(brackets(), [][]int{{1, 0, 0}}, over)
	over.Todo[0] = closing(0)
	if same.Todo[0] != closing(1) {
		t.Errorf("it is changed: %v", same)
	}
	begin := climb.Begin()
	begin.Todo[0] = closing(7)
	if !sameClimber(climb.Begin(), ahead(0, symbol(non(0)))) {
		t.Errorf("Begin: %v", climb.Begin())
	}
}

// One climber may be gone on from more than once.
func TestP2AClimberGoesOnInMoreWays(t *testing.T) {
	g := brackets()
	rows := rowsOf(t, g)
	c, _, _ := climb.Push(g, rows, climb.Begin(), 0)
	d, _, _ := climb.Push(g, rows, c, 0)
	e, _, _ := climb.Push(g, rows, c, 1)
	f, _, _ := climb.Push(g, rows, d, 1)
	if !sameClimber(c, ahead(1, symbol(non(0)), symbol(term(1)), closing(1))) || !sameClimber(e, ahead(2)) || !sameClimber(f, ahead(3, symbol(term(1)), closing(1))) ||
		!sameClimber(d, ahead(2, symbol(non(0)), symbol(term(1)), closing(1), symbol(term(1)), closing(1))) {
		t.Errorf("%v %v %v %v", c, d, e, f)
	}
}

func TestP2CallsAtOneTimeDoNotMeet(t *testing.T) {
	g, h := brackets(), must(t, "1 1\n0: t0 n0\n0:\n")
	rows, others := rowsOf(t, g), rowsOf(t, h)
	c := climb.Begin()
	var wait sync.WaitGroup
	for range 8 {
		wait.Go(func() {
			for range 100 {
				if d, l, err := climb.Push(g, rows, c, 0); len(d.Todo) != 3 || len(l) != 2 || err != api.OK {
					t.Errorf("Push: %v %v %d", d, l, err)
				}
				if d, l, err := climb.Push(h, others, c, 0); len(d.Todo) != 2 || len(l) != 2 || err != api.OK {
					t.Errorf("Push: %v %v %d", d, l, err)
				}
				if d, l, err := climb.End(h, others, c); !d.Done || len(l) != 2 || err != api.OK {
					t.Errorf("End: %v %v %d", d, l, err)
				}
			}
		})
	}
	wait.Wait()
}
