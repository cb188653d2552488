package build_test

import (
	"math"
	"math/rand"
	"reflect"
	"slices"
	"sync"
	"testing"
	"unsafe"

	"pushmill/api"
	"pushmill/build"
)

// pick is one of these.
func pick[T any](rng *rand.Rand, of ...T) T { return of[rng.Intn(len(of))] }

// anyGrammar may be right or wrong.
func anyGrammar(rng *rand.Rand) api.Grammar {
	g := wildOne(rng)
	if rng.Intn(16) == 0 {
		g.Terms = pick(rng, edges()...)
	}
	if rng.Intn(16) == 0 {
		g.Nons = pick(rng, edges()...)
	}
	if rng.Intn(12) == 0 {
		g.Prods = slices.Repeat(append(g.Prods, prod(0)), 1+rng.Intn(3))
	}
	if rng.Intn(8) == 0 && len(g.Prods) > 0 {
		p := &g.Prods[rng.Intn(len(g.Prods))]
		switch rng.Intn(3) {
		case 0:
			p.Head = pick(rng, edges()...)
		case 1:
			p.Body = append(slices.Clone(p.Body), api.Sym{Kind: pick(rng, -1, 0, 1, 2, 3), N: pick(rng, edges()...)})
		case 2:
			p.Body = slices.Repeat([]api.Sym{non(0)}, rng.Intn(12))
		}
	}
	return g
}

// anyTable may be right or wrong.
func anyTable(rng *rand.Rand, g api.Grammar) api.Table {
	if g.Terms < 0 || g.Terms > 40 || g.Nons < 0 || g.Nons > 40 {
		return table("- | -", "|", "a | 0")
	}
	states := rng.Intn(2 + rng.Intn(12))
	if rng.Intn(8) == 0 {
		states = 198 + rng.Intn(4)
	}
	tab := someTable(rng, g, states, rng.Intn(8), rng.Intn(11))
	if states == 0 || rng.Intn(4) > 0 {
		return tab
	}
	n := rng.Intn(states)
	switch rng.Intn(6) {
	case 0:
		tab.Acts = slices.Delete(tab.Acts, n, n+1)
	case 1:
		tab.Goto = append(tab.Goto, tab.Goto[n])
	case 2:
		tab.Acts[n] = append(tab.Acts[n], nothing())
	case 3:
		tab.Goto[n] = append(tab.Goto[n], -1)
	case 4:
		tab.Acts[n][rng.Intn(g.Terms+1)] = api.Act{Kind: pick(rng, -1, 0, 1, 2, 3, 4), N: pick(rng, edges()...)}
	case 5:
		if g.Nons > 0 {
			tab.Goto[n][rng.Intn(g.Nons)] = pick(rng, edges()...)
		}
	}
	return tab
}

// anyStacker may be right or wrong.
func anyStacker(rng *rand.Rand, tab api.Table) api.Stacker {
	s := build.Begin()
	if rng.Intn(4) > 0 {
		s = someStacker(rng, max(1, len(tab.Acts)), 1+rng.Intn(62))
	}
	if rng.Intn(12) == 0 {
		s.Seen = pick(rng, edges()...)
	}
	if rng.Intn(12) == 0 {
		s.Over = api.Errno(pick(rng, edges()...))
	}
	if rng.Intn(12) == 0 {
		s.Done = true
	}
	switch rng.Intn(16) {
	case 0, 1:
		s.States = slices.Insert(s.States, rng.Intn(len(s.States)+1), pick(rng, append(edges(), len(tab.Acts))...))
	case 2:
		s.States = nil
	}
	return s
}

// anyTerm may be right or wrong.
func anyTerm(rng *rand.Rand, g api.Grammar) int {
	if g.Terms > 0 && rng.Intn(8) > 0 {
		return rng.Intn(g.Terms)
	}
	return pick(rng, edges()...)
}

func TestP1AnswersWhateverIsGiven(t *testing.T) {
	rng := rand.New(rand.NewSource(11))
	told := map[api.Errno]int{}
	for range 40000 {
		g := anyGrammar(rng)
		tab := anyTable(rng, g)
		s := anyStacker(rng, tab)
		_, err := pushesPlainly(t, g, tab, s, anyTerm(rng, g))
		told[err]++
		told[endsPlainly(t, g, tab, s)]++
	}
	for _, err := range []api.Errno{api.OK, api.ErrArg, api.ErrLarge, api.ErrOver, api.ErrToken, api.ErrStack} {
		if told[err] < 500 {
			t.Errorf("told: %v", told)
		}
	}
}

func TestP1HugeThings(t *testing.T) {
	huge := grammar(1, 1, slices.Repeat([]api.Prod{prod(math.MinInt, make([]api.Sym, 1<<16)...)}, 1<<16)...)
	refused(t, huge, api.Table{}, build.Begin(), 0, api.ErrLarge)
	huge.Prods = huge.Prods[:1]
	refused(t, huge, api.Table{}, build.Begin(), 0, api.ErrLarge)
	refused(t, grammar(math.MaxInt, math.MaxInt), api.Table{}, build.Begin(), 0, api.ErrArg)
	refused(t, grammar(math.MinInt, math.MinInt), api.Table{}, build.Begin(), 0, api.ErrArg)
	refused(t, brackets(), api.Table{Acts: make([][]api.Act, 1<<20), Goto: make([][]int, 1<<20)}, build.Begin(), 0, api.ErrLarge)
	refused(t, brackets(), api.Table{Acts: [][]api.Act{make([]api.Act, 1<<20)}, Goto: [][]int{make([]int, 1<<20)}}, build.Begin(), 0, api.ErrArg)
	long := api.Stacker{States: make([]int, 1<<20), Seen: math.MaxInt, Over: math.MinInt}
	refused(t, brackets(), bracketsTable(), long, 0, api.ErrArg)
	refused(t, brackets(), bracketsTable(), at(0, long.States...), 0, api.ErrArg)
}

// The greatest tables, in which all that is done are reduces, do not take long, either.
func TestP1GreatestTablesEnd(t *testing.T) {
	rng := rand.New(rand.NewSource(14))
	for width := range 9 {
		g := grammar(30, 20)
		for n := range 40 {
			g.Prods = append(g.Prods, prod(n%20, slices.Repeat([]api.Sym{non(n % 20)}, min(n%3, width))...))
		}
		for range 100 {
			tab := someTable(rng, g, 200, 0, 10)
			s := someStacker(rng, 200, 60)
			pushesPlainly(t, g, tab, s, 29)
			endsPlainly(t, g, tab, s)
		}
	}
}

// room is the memory of a list, from its first byte to behind its spare room.
type room struct{ from, to uintptr }

// roomOf has the memory of a list, if it has any.
func roomOf[T any](list []T) []room {
	if cap(list) == 0 {
		return nil
	}
	from := uintptr(unsafe.Pointer(unsafe.SliceData(list)))
	var one T
	return []room{{from, from + uintptr(cap(list))*unsafe.Sizeof(one)}}
}

// givenRooms has the memory of all lists that are handed in.
func givenRooms(g api.Grammar, tab api.Table, s api.Stacker) []room {
	l := slices.Concat(roomOf(g.Prods), roomOf(tab.Acts), roomOf(tab.Goto), roomOf(s.States))
	for _, p := range g.Prods {
		l = append(l, roomOf(p.Body)...)
	}
	for _, row := range tab.Acts {
		l = append(l, roomOf(row)...)
	}
	for _, row := range tab.Goto {
		l = append(l, roomOf(row)...)
	}
	return l
}

// apart: do these share no memory?
func apart(l []room) bool {
	slices.SortFunc(l, func(a, b room) int { return int(a.from) - int(b.from) })
	for i := 1; i < len(l); i++ {
		if l[i-1].to > l[i].from {
			return false
		}
	}
	return true
}

// roomy is a list with spare room behind it, in which spare stands.
func roomy[T any](list []T, spare T) []T {
	l := append(make([]T, 0, len(list)+12), list...)
	_ = append(l, slices.Repeat([]T{spare}, 12)...)
	return l
}

// whole is a list with its spare room as a part of it.
func whole[T any](list []T) []T { return slices.Clone(list[:cap(list)]) }

// roomyGrammar is g with spare room behind each list.
func roomyGrammar(g api.Grammar) api.Grammar {
	prods := make([]api.Prod, len(g.Prods))
	for i, p := range g.Prods {
		prods[i] = prod(p.Head, roomy(p.Body, api.Sym{Kind: 7, N: 77})...)
	}
	return grammar(g.Terms, g.Nons, roomy(prods, prod(77, term(77)))...)
}

// wholeGrammar is g with its spare room as a part of each list.
func wholeGrammar(g api.Grammar) api.Grammar {
	prods := whole(g.Prods)
	for i, p := range prods {
		prods[i].Body = whole(p.Body)
	}
	return grammar(g.Terms, g.Nons, prods...)
}

// roomyTable is tab with spare room behind each list.
func roomyTable(tab api.Table) api.Table {
	l := api.Table{Acts: roomy(tab.Acts, []api.Act{{Kind: 77}}), Goto: roomy(tab.Goto, []int{777})}
	for n, row := range l.Acts {
		l.Acts[n] = roomy(row, api.Act{Kind: 77, N: 77})
	}
	for n, row := range l.Goto {
		l.Goto[n] = roomy(row, 777)
	}
	return l
}

// wholeTable is tab with its spare room as a part of each list.
func wholeTable(tab api.Table) api.Table {
	l := api.Table{Acts: whole(tab.Acts), Goto: whole(tab.Goto)}
	for n, row := range l.Acts {
		l.Acts[n] = whole(row)
	}
	for n, row := range l.Goto {
		l.Goto[n] = whole(row)
	}
	return l
}

// roomyStacker is s with spare room behind its list.
func roomyStacker(s api.Stacker) api.Stacker {
	s.States = roomy(s.States, 77)
	return s
}

func TestP2AnswersAreNewMemory(t *testing.T) {
	rng := rand.New(rand.NewSource(12))
	told := map[api.Errno]int{}
	for range 16000 {
		g := roomyGrammar(anyGrammar(rng))
		tab := roomyTable(anyTable(rng, g))
		s := roomyStacker(anyStacker(rng, tab))
		n := anyTerm(rng, g)
		a, l, err := build.Push(g, tab, s, n)
		again, more, _ := build.Push(g, tab, s, n)
		b, last, _ := build.End(g, tab, s)
		told[err]++
		if !apart(slices.Concat(givenRooms(g, tab, s), roomOf(a.States), roomOf(l), roomOf(again.States), roomOf(more), roomOf(b.States), roomOf(last))) {
			t.Fatalf("of %s, %s, %s: lists share their memory", show(g), show(tab), show(s))
		}
	}
	for _, err := range []api.Errno{api.OK, api.ErrArg, api.ErrLarge, api.ErrOver, api.ErrToken, api.ErrStack} {
		if told[err] < 100 {
			t.Errorf("told: %v", told)
		}
	}
	if !apart(slices.Concat(roomOf(build.Begin().States), roomOf(build.Begin().States), roomOf(build.Begin().States))) {
		t.Errorf("beginnings share their memory")
	}
}

func TestP2WhatIsHandedInStays(t *testing.T) {
	rng := rand.New(rand.NewSource(13))
	for range 6000 {
		g := anyGrammar(rng)
		tab := anyTable(rng, g)
		s := anyStacker(rng, tab)
		given, handed, d := roomyGrammar(g), roomyTable(tab), roomyStacker(s)
		build.Push(given, handed, d, anyTerm(rng, g))
		build.End(given, handed, d)
		if !reflect.DeepEqual(wholeGrammar(given), wholeGrammar(roomyGrammar(g))) {
			t.Fatalf("%s is changed", show(g))
		}
		if want, got := wholeTable(roomyTable(tab)), wholeTable(handed); !slices.EqualFunc(got.Acts, want.Acts, slices.Equal) || !slices.EqualFunc(got.Goto, want.Goto, slices.Equal) {
			t.Fatalf("%s is changed", show(tab))
		}
		if !slices.Equal(whole(d.States), whole(roomyStacker(s).States)) {
			t.Fatalf("%s is changed", show(s))
		}
	}
}

// Spare room behind a list is no part of it.
func TestP2SpareRoomDoesNotCount(t *testing.T) {
	g, tab := roomyGrammar(brackets()), roomyTable(bracketsTable())
	states := []int{0, 1, 3, 77}
	pushes(t, g, tab, api.Stacker{States: states[:1]}, 0, at(1, 0, 1), []api.Event{had(0)}, api.OK)
	pushes(t, g, tab, api.Stacker{States: states[:2]}, 0, at(1, 0, 1, 3), []api.Event{had(0)}, api.OK)
	pushes(t, g, tab, api.Stacker{States: states[:3]}, 1, at(1, 0, 1, 3, 5, 7), []api.Event{built(0), had(0)}, api.OK)
	refused(t, g, tab, api.Stacker{States: states}, 0, api.ErrArg)
	refused(t, g, tab, api.Stacker{States: states[:0]}, 0, api.ErrArg)
	long := slices.Repeat([]int{2}, 61)
	ends(t, g, tab, api.Stacker{States: long[:60]}, done(0), nil, api.OK)
	refused(t, g, tab, api.Stacker{States: long}, 0, api.ErrArg)
	two := table("- r1 | 1", "- a | -")
	one := grammar(1, 1, prod(0), prod(0, term(0)))
	ends(t, one, two, at(0, 0, 0), done(0), []api.Event{built(1)}, api.OK)
	ends(t, one, api.Table{Acts: two.Acts[:1], Goto: two.Goto[:1]}, at(0, 0, 0), at(0, 0, 0), nil, api.ErrArg)
	refused(t, one, api.Table{Acts: table("- a | -", "- a | -").Acts[:1], Goto: [][]int{{-1}}}, at(0, 1), 0, api.ErrArg)
}

// What is answered stays when what was handed in is changed, and a call does not hang on those ahead of it.
func TestP2NothingIsKept(t *testing.T) {
	g, tab, s := brackets(), bracketsTable(), at(2, 0, 1, 3)
	want, events := at(3, 0, 1, 3, 5, 7), []api.Event{built(0), had(2)}
	d, l, _ := build.Push(g, tab, s, 1)
	g.Prods[0].Head, tab.Goto[3][0], s.States[0] = 7, 4, 2
	if !sameStacker(d, want) || !slices.Equal(l, events) {
		t.Errorf("it is changed: %v %v", d, l)
	}
	refused(t, g, tab, at(2, 0, 1, 3), 1, api.ErrArg)
	pushes(t, brackets(), tab, at(2, 0, 1, 3), 1, at(3, 0, 1, 3, 4, 6), events, api.OK)
	pushes(t, brackets(), bracketsTable(), at(2, 0, 1, 3), 1, want, events, api.OK)
	d.States[0], l[0] = 7, built(7)
	pushes(t, brackets(), bracketsTable(), at(2, 0, 1, 3), 1, want, events, api.OK)
	over := api.Stacker{States: []int{0, 1}, Over: api.ErrToken}
	same, _, _ := build.End(brackets(), bracketsTable(), over)
	over.States[1] = 3
	if !slices.Equal(same.States, []int{0, 1}) {
		t.Errorf("it is changed: %v", same)
	}
	begin := build.Begin()
	begin.States[0] = 7
	if !sameStacker(build.Begin(), at(0, 0)) {
		t.Errorf("Begin: %v", build.Begin())
	}
}

// One stacker may be gone on from more than once.
func TestP2AStackerGoesOnInMoreWays(t *testing.T) {
	g, tab := brackets(), bracketsTable()
	s, _, _ := build.Push(g, tab, build.Begin(), 0)
	a, _, _ := build.Push(g, tab, s, 0)
	b, _, _ := build.Push(g, tab, s, 1)
	c, _, _ := build.Push(g, tab, a, 1)
	d, _, _ := build.Push(g, tab, a, 0)
	if !sameStacker(s, at(1, 0, 1)) || !sameStacker(a, at(2, 0, 1, 3)) || !sameStacker(b, at(2, 0, 1, 4, 6)) ||
		!sameStacker(c, at(3, 0, 1, 3, 5, 7)) || !sameStacker(d, at(3, 0, 1, 3, 3)) {
		t.Errorf("%v %v %v %v %v", s, a, b, c, d)
	}
}

func TestP2CallsAtOneTimeDoNotMeet(t *testing.T) {
	g, h := brackets(), must(t, "1 1\n0: n0 t0\n0:\n")
	tab, other := bracketsTable(), tableOf(t, h)
	s := build.Begin()
	var wait sync.WaitGroup
	for range 8 {
		wait.Go(func() {
			for range 100 {
				if d, l, err := build.Push(g, tab, s, 0); len(d.States) != 2 || len(l) != 1 || err != api.OK {
					t.Errorf("Push: %v %v %d", d, l, err)
				}
				if d, l, err := build.Push(h, other, s, 0); len(d.States) != 3 || len(l) != 2 || err != api.OK {
					t.Errorf("Push: %v %v %d", d, l, err)
				}
				if d, l, err := build.End(h, other, s); !d.Done || len(l) != 1 || err != api.OK {
					t.Errorf("End: %v %v %d", d, l, err)
				}
			}
		})
	}
	wait.Wait()
}
