package lr_test

import (
	"math"
	"math/rand"
	"reflect"
	"slices"
	"sync"
	"testing"
	"unsafe"

	"pushmill/api"
	"pushmill/cfg"
	"pushmill/lr"
)

// anyGrammar may be right or wrong.
func anyGrammar(rng *rand.Rand) api.Grammar {
	g := wildOne(rng)
	pick := func(l []int) int { return l[rng.Intn(len(l))] }
	if rng.Intn(8) == 0 {
		g.Terms = pick(edges())
	}
	if rng.Intn(8) == 0 {
		g.Nons = pick(edges())
	}
	if rng.Intn(6) == 0 {
		g.Prods = slices.Repeat(append(g.Prods, prod(0)), 1+rng.Intn(3))
	}
	for range rng.Intn(3) * rng.Intn(2) {
		if len(g.Prods) == 0 {
			break
		}
		p := &g.Prods[rng.Intn(len(g.Prods))]
		switch rng.Intn(3) {
		case 0:
			p.Head = pick(edges())
		case 1:
			p.Body = append(slices.Clone(p.Body), api.Sym{Kind: pick([]int{-1, 0, 1, 2, 3}), N: pick(edges())})
		case 2:
			p.Body = slices.Repeat([]api.Sym{non(0)}, rng.Intn(12))
		}
	}
	return g
}

func TestP1AnswersWhateverIsGiven(t *testing.T) {
	rng := rand.New(rand.NewSource(11))
	made, checked := map[api.Errno]int{}, map[api.Errno]int{}
	for range 1000 {
		g := anyGrammar(rng)
		tab, fights, err := lr.Make(g)
		made[err]++
		if err != api.OK && (!reflect.DeepEqual(tab, api.Table{}) || fights != nil) {
			t.Fatalf("Make(%s): %s %s %d", show(g), show(tab), show(fights), err)
		}
		if want := cfg.Check(g); err != want && (err != api.ErrStates || want != api.OK) {
			t.Fatalf("Make(%s): %d, not %d", show(g), err, want)
		}
		tab = anyTable(rng, g)
		want := plainCheck(g, tab)
		checks(t, g, tab, want)
		checked[want]++
	}
	for _, err := range []api.Errno{api.OK, api.ErrArg, api.ErrLarge} {
		if made[err] < 20 || checked[err] < 20 || made[api.ErrStates] < 20 {
			t.Errorf("told: %v %v", made, checked)
		}
	}
}

func TestP1HugeThings(t *testing.T) {
	huge := grammar(1, 1, slices.Repeat([]api.Prod{prod(math.MinInt, make([]api.Sym, 1<<16)...)}, 1<<16)...)
	refused(t, huge, api.ErrLarge)
	huge.Prods = huge.Prods[:1]
	refused(t, huge, api.ErrLarge)
	refused(t, grammar(math.MaxInt, math.MaxInt), api.ErrArg)
	refused(t, grammar(math.MinInt, math.MinInt), api.ErrArg)
	refused(t, grammar(math.MaxInt, 1), api.ErrArg)
	acts, next := make([]api.Act, 1<<20), make([]int, 1<<20)
	checks(t, left(), api.Table{Acts: make([][]api.Act, 1<<20), Goto: make([][]int, 1<<20)}, api.ErrLarge)
	checks(t, left(), api.Table{Acts: make([][]api.Act, 200), Goto: make([][]int, 1<<20)}, api.ErrArg)
	checks(t, left(), api.Table{Acts: slices.Repeat([][]api.Act{acts}, 200), Goto: slices.Repeat([][]int{next}, 200)}, api.ErrArg)
}

// room is the memory of a list, from its first byte to behind its spare room.
type room struct{ from, to uintptr }

// roomOf has the memory of a list, if it has any.
func roomOf[T any](list []T) []room {
	if cap(list) == 0 {
		return nil
	}
	from := uintptr(unsafe.Pointer(unsafe.SliceData(list)))
	var one T
	return []room{{from, from + uintptr(cap(list))*unsafe.Sizeof(one)}}
}

// grammarRooms has the memory of all lists of g.
func grammarRooms(g api.Grammar) []room {
	l := roomOf(g.Prods)
	for _, p := range g.Prods {
		l = append(l, roomOf(p.Body)...)
	}
	return l
}

// tableRooms has the memory of all lists of tab, those that its spare room has included.
func tableRooms(tab api.Table) []room {
	l := slices.Concat(roomOf(tab.Acts), roomOf(tab.Goto))
	for _, row := range tab.Acts[:cap(tab.Acts)] {
		l = append(l, roomOf(row)...)
	}
	for _, row := range tab.Goto[:cap(tab.Goto)] {
		l = append(l, roomOf(row)...)
	}
	return l
}

// apart: do these share no memory?
func apart(l []room) bool {
	slices.SortFunc(l, func(a, b room) int { return int(a.from) - int(b.from) })
	for i := 1; i < len(l); i++ {
		if l[i-1].to > l[i].from {
			return false
		}
	}
	return true
}

func TestP2AnswersAreNewMemory(t *testing.T) {
	rng := rand.New(rand.NewSource(13))
	fought := 0
	for range 300 {
		g := roomyGrammar(wildOne(rng))
		a, one, _ := lr.Make(g)
		b, other, _ := lr.Make(g)
		rooms := slices.Concat(grammarRooms(g), tableRooms(a), tableRooms(b), roomOf(one), roomOf(other))
		if !apart(rooms) {
			t.Fatalf("of %s: lists share their memory", show(g))
		}
		// Had they been thrown away, another list could have come to their place.
		if !slices.Equal(one, other) || !sameTable(a, b) {
			t.Fatalf("of %s: two answers", show(g))
		}
		if len(one) > 0 {
			fought++
		}
	}
	if fought < 50 {
		t.Errorf("only %d with Fights", fought)
	}
}

// roomy is a list with spare room behind it, in which spare stands.
func roomy[T any](list []T, spare T) []T {
	l := append(make([]T, 0, len(list)+2), list...)
	_ = append(l, spare, spare)
	return l
}

// roomyGrammar is g with spare room behind each list.
func roomyGrammar(g api.Grammar) api.Grammar {
	prods := make([]api.Prod, len(g.Prods))
	for i, p := range g.Prods {
		prods[i] = prod(p.Head, roomy(p.Body, api.Sym{Kind: 7, N: 77})...)
	}
	return grammar(g.Terms, g.Nons, roomy(prods, prod(77, term(77)))...)
}

// wholeGrammar is g with its spare room as a part of each list.
func wholeGrammar(g api.Grammar) api.Grammar {
	prods := slices.Clone(g.Prods[:cap(g.Prods)])
	for i, p := range prods {
		prods[i].Body = p.Body[:cap(p.Body)]
	}
	return grammar(g.Terms, g.Nons, prods...)
}

// roomyTable is tab with spare room behind each list.
func roomyTable(tab api.Table) api.Table {
	var acts [][]api.Act
	for _, row := range tab.Acts {
		acts = append(acts, roomy(row, api.Act{Kind: 77, N: 77}))
	}
	var next [][]int
	for _, row := range tab.Goto {
		next = append(next, roomy(row, 777))
	}
	return api.Table{Acts: roomy(acts, []api.Act{{Kind: 77}}), Goto: roomy(next, []int{777})}
}

// wholeTable is tab with its spare room as a part of each list.
func wholeTable(tab api.Table) api.Table {
	tab = api.Table{Acts: slices.Clone(tab.Acts[:cap(tab.Acts)]), Goto: slices.Clone(tab.Goto[:cap(tab.Goto)])}
	for n, row := range tab.Acts {
		tab.Acts[n] = row[:cap(row)]
	}
	for n, row := range tab.Goto {
		tab.Goto[n] = row[:cap(row)]
	}
	return tab
}

func TestP2WhatIsHandedInStays(t *testing.T) {
	rng := rand.New(rand.NewSource(14))
	for range 400 {
		g := anyGrammar(rng)
		tab := anyTable(rng, g)
		given, handed := roomyGrammar(g), roomyTable(tab)
		lr.Check(given, handed)
		lr.Make(given)
		if !reflect.DeepEqual(wholeGrammar(given), wholeGrammar(roomyGrammar(g))) {
			t.Fatalf("%s is changed", show(g))
		}
		if !reflect.DeepEqual(wholeTable(handed), wholeTable(roomyTable(tab))) {
			t.Fatalf("%s is changed", show(tab))
		}
	}
}

// Spare room behind a list is no part of it.
func TestP2SpareRoomDoesNotCount(t *testing.T) {
	want, fights, _ := plainMake(left())
	makes(t, roomyGrammar(left()), want, fights)
	checks(t, roomyGrammar(left()), roomyTable(want), api.OK)
	many := blank(203, 2, 1)
	checks(t, left(), api.Table{Acts: many.Acts[:200], Goto: many.Goto[:200]}, api.OK)
	checks(t, left(), api.Table{Acts: many.Acts[:0], Goto: many.Goto[:0]}, api.ErrArg)
	short := blank(1, 3, 2)
	short.Acts[0], short.Goto[0] = short.Acts[0][:2], short.Goto[0][:1]
	checks(t, left(), short, api.OK)
	short.Acts[0] = short.Acts[0][:1]
	checks(t, left(), short, api.ErrArg)
}

// What is answered stays when what was handed in is changed, and a call does not hang on those ahead of it.
func TestP2NothingIsKept(t *testing.T) {
	double := must(t, "1 1\n0: n0 n0\n0: t0\n")
	want, fights, _ := plainMake(double)
	tab, l, _ := lr.Make(double)
	double.Prods[0].Head, double.Prods[1].Body[0] = 7, term(77)
	if !sameTable(tab, want) || !slices.Equal(l, fights) {
		t.Errorf("it is changed: %v %v", tab, l)
	}
	refused(t, double, api.ErrArg)
	double = must(t, "1 1\n0: n0 n0\n0: t0\n")
	for n := range tab.Acts {
		clear(tab.Acts[n])
		clear(tab.Goto[n])
	}
	clear(l)
	makes(t, double, want, fights)
	checks(t, double, tab, api.OK)
	tab.Acts[0][0] = shift(99)
	checks(t, double, tab, api.ErrArg)
	tab.Acts[0][0] = shift(1)
	checks(t, double, tab, api.OK)
	makeFails(t, ago(9), api.ErrStates)
	plainly(t, brackets())
	makes(t, double, want, fights)
}

// The answers don't hang on the order in which a map is gone through.
func TestP2TheSameAgain(t *testing.T) {
	rng := rand.New(rand.NewSource(15))
	for range 50 {
		g := wildOne(rng)
		tab, fights, err := lr.Make(g)
		for range 5 {
			again, l, e := lr.Make(g)
			if !sameTable(tab, again) || !slices.Equal(fights, l) || e != err {
				t.Fatalf("Make(%s) is told in two ways", show(g))
			}
		}
	}
}

func TestP2CallsAtOneTimeDoNotMeet(t *testing.T) {
	double := must(t, "1 1\n0: n0 n0\n0: t0\n")
	want, fights, _ := plainMake(double)
	other, _, _ := plainMake(brackets())
	handed := copied(want)
	var wait sync.WaitGroup
	for range 8 {
		wait.Go(func() {
			for range 50 {
				tab, l, err := lr.Make(double)
				if !sameTable(tab, want) || !slices.Equal(l, fights) || err != api.OK {
					t.Errorf("Make: %v %v %d", tab, l, err)
				}
				tab, l, err = lr.Make(brackets())
				if !sameTable(tab, other) || len(l) > 0 || err != api.OK {
					t.Errorf("Make: %v %v %d", tab, l, err)
				}
				if err := lr.Check(double, handed); err != api.OK {
					t.Errorf("Check: %d", err)
				}
			}
		})
	}
	wait.Wait()
}
