package trees_test

import (
	"math"
	"math/rand"
	"reflect"
	"slices"
	"sync"
	"testing"
	"unsafe"

	"pushmill/api"
	"pushmill/cfg"
	"pushmill/trees"
)

// anyGrammar may be right or wrong.
func anyGrammar(rng *rand.Rand) api.Grammar {
	g := wildOne(rng)
	pick := func(l []int) int { return l[rng.Intn(len(l))] }
	if rng.Intn(8) == 0 {
		g.Terms = pick(edges())
	}
	if rng.Intn(8) == 0 {
		g.Nons = pick(edges())
	}
	if rng.Intn(6) == 0 {
		g.Prods = slices.Repeat(append(g.Prods, prod(0)), 1+rng.Intn(3))
	}
	for range rng.Intn(3) * rng.Intn(2) {
		if len(g.Prods) == 0 {
			break
		}
		p := &g.Prods[rng.Intn(len(g.Prods))]
		switch rng.Intn(3) {
		case 0:
			p.Head = pick(edges())
		case 1:
			p.Body = append(slices.Clone(p.Body), api.Sym{Kind: pick([]int{-1, 0, 1, 2, 3}), N: pick(edges())})
		case 2:
			p.Body = slices.Repeat([]api.Sym{non(0)}, rng.Intn(12))
		}
	}
	return g
}

// anyTree may be right or wrong, and be one of g or not.
func anyTree(rng *rand.Rand, g api.Grammar) api.Tree {
	if rng.Intn(3) == 0 || cfg.Check(g) != api.OK {
		g = forest()
	}
	x, ok := wildTree(rng, g, []int{1, 10, 100, 1000, 1200}[rng.Intn(5)], []int{5, 50, 150}[rng.Intn(3)])
	if !ok {
		x = bush([]int{1, 5, 999, 1000, 1001}[rng.Intn(5)])
	}
	for range rng.Intn(3) {
		x = patched(rng, x)
	}
	return x
}

// anyEvents may be those of a tree, or not.
func anyEvents(rng *rand.Rand, x api.Tree) []api.Event {
	switch rng.Intn(5) {
	case 0:
		return changed(rng, plainDown(x))
	case 1:
		return changed(rng, plainUp(x))
	case 2:
		return plainDown(x)
	case 3:
		return plainUp(x)
	}
	l := make([]api.Event, []int{0, 1, 5, 2000, 2001, 3000}[rng.Intn(6)])
	for i := range l {
		l[i] = api.Event{Kind: rng.Intn(6), N: edges()[rng.Intn(len(edges()))]}
	}
	return l
}

func TestP1AnswersWhateverIsGiven(t *testing.T) {
	rng := rand.New(rand.NewSource(11))
	told := map[string]map[api.Errno]int{"Check": {}, "OfDown": {}, "OfUp": {}}
	for range 4000 {
		g := anyGrammar(rng)
		x := anyTree(rng, g)
		told["Check"][plainly(t, g, x)]++
		l := anyEvents(rng, x)
		told["OfDown"][ofDown().plainly(t, g, l)]++
		told["OfUp"][ofUp().plainly(t, g, l)]++
	}
	for name, of := range told {
		for _, err := range []api.Errno{api.OK, api.ErrArg, api.ErrLarge, api.ErrForm} {
			if of[err] < 50 || told["Check"][api.ErrDeep] < 20 {
				t.Errorf("%s told: %v", name, of)
			}
		}
	}
}

func TestP1HugeThings(t *testing.T) {
	huge := grammar(1, 1, slices.Repeat([]api.Prod{prod(math.MinInt, make([]api.Sym, 1<<16)...)}, 1<<16)...)
	refused(t, huge, api.ErrLarge)
	huge.Prods = huge.Prods[:1]
	refused(t, huge, api.ErrLarge)
	refused(t, grammar(math.MaxInt, math.MaxInt), api.ErrArg)
	refused(t, grammar(math.MinInt, math.MinInt), api.ErrArg)
	wrong(t, forest(), node(4, make([]api.Tree, 1<<20)...), api.ErrForm)
	wrong(t, forest(), node(3, api.Tree{Prod: -1, Kids: make([]api.Tree, 1<<20)}), api.ErrForm)
	wrong(t, forest(), chain(1, 1<<16, node(0)), api.ErrDeep)
	wrong(t, forest(), chain(9, 1<<16, node(0)), api.ErrForm)
	wrong(t, forest(), node(2, bush(1<<16), bush(1<<16)), api.ErrLarge)
	for _, e := range events("o0 c0 o1 c1 t0 r0 r1 r2") {
		for _, many := range []int{2000, 2001, 1 << 20} {
			want := api.ErrForm
			if many > 2000 {
				want = api.ErrLarge
			}
			ofDown().fails(t, forest(), slices.Repeat([]api.Event{e}, many), want)
			ofUp().fails(t, forest(), slices.Repeat([]api.Event{e}, many), want)
		}
	}
}

// A tree may hold itself, and so have no end.
func TestP1TreesWithoutEnd(t *testing.T) {
	for _, c := range []struct {
		prod, kids int
		want       api.Errno
	}{
		{1, 1, api.ErrDeep}, {2, 2, api.ErrDeep}, {4, 8, api.ErrDeep},
		{0, 1, api.ErrForm}, {1, 2, api.ErrForm}, {9, 1, api.ErrForm}, {-1, 1, api.ErrForm},
	} {
		kids := make([]api.Tree, c.kids)
		for i := range kids {
			kids[i] = api.Tree{Prod: c.prod, Kids: kids}
		}
		for _, call := range []func() api.Errno{
			func() api.Errno { return trees.Check(forest(), kids[0]) },
			func() api.Errno { _, err := trees.Yield(forest(), kids[0]); return err },
			func() api.Errno { _, err := trees.Down(forest(), kids[0]); return err },
			func() api.Errno { _, err := trees.Up(forest(), kids[0]); return err },
		} {
			if err := call(); err != c.want {
				t.Errorf("%v: %d", c, err)
			}
		}
	}
}

// room is the memory of a list, from its first byte to behind its spare room.
type room struct{ from, to uintptr }

// roomOf has the memory of a list, if it has any.
func roomOf[T any](list []T) []room {
	if cap(list) == 0 {
		return nil
	}
	from := uintptr(unsafe.Pointer(unsafe.SliceData(list)))
	var one T
	return []room{{from, from + uintptr(cap(list))*unsafe.Sizeof(one)}}
}

// grammarRooms has the memory of all lists of g.
func grammarRooms(g api.Grammar) []room {
	l := roomOf(g.Prods)
	for _, p := range g.Prods {
		l = append(l, roomOf(p.Body)...)
	}
	return l
}

// treeRooms has the memory of all lists of x, those that its spare room has included.
func treeRooms(x api.Tree) []room {
	l := roomOf(x.Kids)
	for _, kid := range x.Kids[:cap(x.Kids)] {
		l = append(l, treeRooms(kid)...)
	}
	return l
}

// apart: do these share no memory?
func apart(l []room) bool {
	slices.SortFunc(l, func(a, b room) int { return int(a.from) - int(b.from) })
	for i := 1; i < len(l); i++ {
		if l[i-1].to > l[i].from {
			return false
		}
	}
	return true
}

func TestP2AnswersAreNewMemory(t *testing.T) {
	rng := rand.New(rand.NewSource(13))
	tried := 0
	for range 1500 {
		g := roomyGrammar(wild(rng, 1+rng.Intn(4), 1+rng.Intn(5), 1+rng.Intn(12), 1+rng.Intn(8), rng.Intn(10)))
		x, ok := wildTree(rng, g, []int{1, 10, 100, 700}[rng.Intn(4)], 50)
		if !ok || trees.Check(g, x) != api.OK {
			continue
		}
		tried++
		x = roomyTree(x)
		rooms := slices.Concat(grammarRooms(g), treeRooms(x))
		var words [2][]int
		var down, up [2][]api.Event
		var a, b [2]api.Tree
		for i := range 2 {
			words[i], _ = trees.Yield(g, x)
			down[i], _ = trees.Down(g, x)
			up[i], _ = trees.Up(g, x)
			a[i], _ = trees.OfDown(g, down[i])
			b[i], _ = trees.OfUp(g, up[i])
			rooms = slices.Concat(rooms, roomOf(words[i]), roomOf(down[i]), roomOf(up[i]), treeRooms(a[i]), treeRooms(b[i]))
		}
		if !apart(rooms) {
			t.Fatalf("of %s, %s: lists share their memory", show(g), show(x))
		}
		// Had they been thrown away, another list could have come to their place.
		if !slices.Equal(words[0], words[1]) || !slices.Equal(down[0], down[1]) || !slices.Equal(up[0], up[1]) || !same(a[0], a[1]) || !same(b[0], b[1]) || !same(a[0], x) || !same(b[0], x) {
			t.Fatalf("of %s, %s: two answers", show(g), show(x))
		}
	}
	if tried < 300 {
		t.Errorf("only %d trees were tried", tried)
	}
}

// roomy is a list with spare room behind it, in which spare stands.
func roomy[T any](list []T, spare T) []T {
	l := append(make([]T, 0, len(list)+2), list...)
	_ = append(l, spare, spare)
	return l
}

// roomyGrammar is g with spare room behind each list.
func roomyGrammar(g api.Grammar) api.Grammar {
	prods := make([]api.Prod, len(g.Prods))
	for i, p := range g.Prods {
		prods[i] = prod(p.Head, roomy(p.Body, api.Sym{Kind: 7, N: 77})...)
	}
	return grammar(g.Terms, g.Nons, roomy(prods, prod(77, term(77)))...)
}

// wholeGrammar is g with its spare room as a part of each list.
func wholeGrammar(g api.Grammar) api.Grammar {
	prods := slices.Clone(g.Prods[:cap(g.Prods)])
	for i, p := range prods {
		prods[i].Body = p.Body[:cap(p.Body)]
	}
	return grammar(g.Terms, g.Nons, prods...)
}

// roomyTree is x with spare room behind each list.
func roomyTree(x api.Tree) api.Tree {
	kids := make([]api.Tree, len(x.Kids))
	for i, kid := range x.Kids {
		kids[i] = roomyTree(kid)
	}
	x.Kids = roomy(kids, api.Tree{Prod: 77, Tok: 777})
	return x
}

// wholeTree is x, in new memory, with its spare room as a part of each list.
func wholeTree(x api.Tree) api.Tree {
	x.Kids = slices.Clone(x.Kids[:cap(x.Kids)])
	for i, kid := range x.Kids {
		x.Kids[i] = wholeTree(kid)
	}
	return x
}

func TestP2WhatIsHandedInStays(t *testing.T) {
	rng := rand.New(rand.NewSource(14))
	for range 1000 {
		g := anyGrammar(rng)
		x := anyTree(rng, g)
		l := anyEvents(rng, x)
		given, handed, told := roomyGrammar(g), roomyTree(x), roomy(l, api.Event{Kind: 77, N: 777})
		trees.Check(given, handed)
		trees.Yield(given, handed)
		trees.Down(given, handed)
		trees.Up(given, handed)
		trees.OfDown(given, told)
		trees.OfUp(given, told)
		if !reflect.DeepEqual(wholeGrammar(given), wholeGrammar(roomyGrammar(g))) {
			t.Fatalf("%s is changed", show(g))
		}
		if !reflect.DeepEqual(wholeTree(handed), wholeTree(roomyTree(x))) {
			t.Fatalf("%s is changed", show(x))
		}
		if !slices.Equal(told[:cap(told)], roomy(l, api.Event{Kind: 77, N: 777})[:len(l)+2]) {
			t.Fatalf("%s is changed", show(l))
		}
	}
}

// Spare room behind a list is no part of it.
func TestP2SpareRoomDoesNotCount(t *testing.T) {
	pair := tree("1(. 0() .)")
	g := roomyGrammar(brackets())
	yields(t, g, roomyTree(pair), 0, 1)
	tells(t, g, roomyTree(pair), plainDown(pair), plainUp(pair))
	ofDown().reads(t, g, roomy(plainDown(pair), shut(1)), pair)
	ofUp().reads(t, g, roomy(plainUp(pair), reduce(1)), pair)
	ofDown().reads(t, forest(), roomy(plainDown(bush(1000)), shut(1)), bush(1000))
	ofUp().fails(t, g, plainUp(pair)[:3], api.ErrForm)
	ofDown().fails(t, g, plainDown(pair)[:5], api.ErrForm)
	short := tree("1(. 0() .)")
	short.Kids = short.Kids[:2]
	wrong(t, g, short, api.ErrForm)
	wrong(t, g, api.Tree{Prod: 2}, api.ErrForm)
	leaf := api.Tree{Prod: -1, Kids: make([]api.Tree, 0, 3)}
	yields(t, forest(), node(3, leaf), 0)
}

// What is answered stays when what was handed in is changed, and a call does not hang on those ahead of it.
func TestP2NothingIsKept(t *testing.T) {
	g, x := brackets(), tree("1(. 0() .)")
	down, up := events("o1 t0 o0 c0 t1 c1"), events("t0 r0 t1 r1")
	word, _ := trees.Yield(g, x)
	a, _ := trees.Down(g, x)
	b, _ := trees.Up(g, x)
	y, _ := trees.OfDown(g, down)
	z, _ := trees.OfUp(g, up)
	g.Prods[1].Body[0], g.Prods[0].Head, x.Kids[1].Prod = term(77), 7, 77
	clear(down)
	clear(up)
	if pair := tree("1(. 0() .)"); !slices.Equal(word, []int{0, 1}) || !slices.Equal(a, plainDown(pair)) || !slices.Equal(b, plainUp(pair)) || !same(y, pair) || !same(z, pair) {
		t.Errorf("it is changed: %v %v %v %v %v", word, a, b, y, z)
	}
	wrong(t, g, x, api.ErrArg)
	wrong(t, brackets(), x, api.ErrForm)
	y.Kids[1].Prod, y.Kids[2].Tok = 9, 9
	if !same(z, tree("1(. 0() .)")) {
		t.Errorf("it is changed: %v", z)
	}
	clear(word)
	clear(a)
	clear(b)
	x = tree("1(. 0() .)")
	yields(t, brackets(), x, 0, 1)
	tells(t, brackets(), x, plainDown(x), plainUp(x))
	ofDown().reads(t, brackets(), plainDown(x), x)
	ofUp().reads(t, brackets(), plainUp(x), x)
	ofUp().fails(t, brackets(), events("t0 t1"), api.ErrForm)
	ofUp().reads(t, brackets(), events("r0"), tree("0()"))
	wrong(t, forest(), bush(1001), api.ErrLarge)
	yields(t, forest(), bush(1000))
}

func TestP2CallsAtOneTimeDoNotMeet(t *testing.T) {
	pair, great := tree("1(. 0() .)"), bush(1000)
	down, up, long := plainDown(pair), plainUp(pair), plainDown(great)
	var wait sync.WaitGroup
	for range 8 {
		wait.Go(func() {
			for range 50 {
				if word, err := trees.Yield(brackets(), pair); err != api.OK || !slices.Equal(word, []int{0, 1}) {
					t.Errorf("Yield: %v %d", word, err)
				}
				if l, err := trees.Down(brackets(), pair); err != api.OK || !slices.Equal(l, down) {
					t.Errorf("Down: %v %d", l, err)
				}
				if l, err := trees.Up(brackets(), pair); err != api.OK || !slices.Equal(l, up) {
					t.Errorf("Up: %v %d", l, err)
				}
				if x, err := trees.OfUp(brackets(), up); err != api.OK || !same(x, pair) {
					t.Errorf("OfUp: %v %d", x, err)
				}
				if x, err := trees.OfDown(forest(), long); err != api.OK || !same(x, great) {
					t.Errorf("OfDown: %s %d", show(x), err)
				}
				if err := trees.Check(brackets(), great); err != api.ErrForm {
					t.Errorf("Check: %d", err)
				}
			}
		})
	}
	wait.Wait()
}
