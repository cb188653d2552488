package trees_test

import (
	"fmt"
	"math/rand"
	"slices"
	"testing"

	"pushmill/api"
)

func TestP41KnownTrees(t *testing.T) {
	for _, c := range []struct {
		g        api.Grammar
		tree     string
		down, up string
	}{
		{brackets(), "0()", "o0 c0", "r0"},
		{brackets(), "1(. 0() .)", "o1 t0 o0 c0 t1 c1", "t0 r0 t1 r1"},
		{brackets(), "1(. 1(. 0() .) .)", "o1 t0 o1 t1 o0 c0 t2 c1 t3 c1", "t0 t1 r0 t2 r1 t3 r1"},
		{two(), "0(. 1() 2(3(. .) .))", "o0 t0 o1 c1 o2 o3 t1 t2 c3 t3 c2 c0", "t0 r1 t1 t2 r3 t3 r2 r0"},
		{two(), "0(. 5(6(4())) 1())", "o0 t0 o5 o6 o4 c4 c6 c5 o1 c1 c0", "t0 r4 r6 r5 r1 r0"},
		{forest(), "2(2(3(.) 3(.)) 3(.))", "o2 o2 o3 t0 c3 o3 t1 c3 c2 o3 t2 c3 c2", "t0 r3 t1 r3 r2 t2 r3 r2"},
		{forest(), "2(3(.) 2(3(.) 3(.)))", "o2 o3 t0 c3 o2 o3 t1 c3 o3 t2 c3 c2 c2", "t0 r3 t1 r3 t2 r3 r2 r2"},
	} {
		ofDown().reads(t, c.g, events(c.down), tree(c.tree))
		ofUp().reads(t, c.g, events(c.up), tree(c.tree))
	}
}

func TestP41NoTreeHasTheseDown(t *testing.T) {
	for _, s := range []string{
		"", "o0", "c0", "t0", "r0", "o1", "c1", "o0 c1", "o1 c0", "c0 o0", "o0 o0 c0", "o0 c0 c0", "o0 c0 o0 c0", "o0 c0 t0", "t0 o0 c0", "o0 t0 c0", "o0 r0", "o0 c0 r0", "r0 o0 c0",
		"o1 c1", "o1 t0 c1", "o1 t0 o0 c0 c1", "o1 t0 t1 c1", "o1 o0 c0 t0 c1", "o1 t0 o0 c0 t1", "t0 o0 c0 t1 c1", "o1 t0 o0 t1 c1", "o1 t0 c0 t1 c1",
		"o1 t1 o0 c0 t2 c1", "o1 t0 o0 c0 t0 c1", "o1 t0 o0 c0 t2 c1", "o1 t1 o0 c0 t0 c1", "o1 t-1 o0 c0 t0 c1", "o1 t0 o0 c0 t1 t2 c1", "o1 t0 o0 c0 t1 o0 c0 c1",
		"o1 t0 o0 c0 t1 c0", "o0 t0 o0 c0 t1 c1", "o1 t0 o1 c0 t1 c1", "o1 t0 o0 c1 t1 c1", "o1 o0 t0 c0 t1 c1", "o1 t0 o0 t1 c0 c1", "o1 o0 c0 t0 t1 c1", "o0 o1 t0 c0 t1 c1",
		"o1 t0 o2 c2 t1 c1", "o2 c2", "o-1 c-1", "o-1 t0 c-1", "t0 r0 t1 r1", "o1 t0 r0 t1 c1", "o1 t0 o0 r0 t1 r1", "o1 t0 o0 c0 t1 c1 o1 t2 o0 c0 t3 c1",
		"o0 o1 t0 c0 o0 t1 c1", "o1 o0 c0 c1 t0 t1", "c0", "t0 c0 t1 c1", "o1 o0 t0 c0 t1 c1",
	} {
		ofDown().fails(t, brackets(), events(s), api.ErrForm)
	}
	for _, s := range []string{"o3 t0 c3", "o3 t0 t1 t2 c3", "o4 c4", "o1 c1", "o0 t0 o4 c4 o1 c1 c0", "o0 t0 o1 c1 c0", "o0 t0 o1 c1 o3 t1 t2 c3 c0", "o0 o1 c1 o1 c1 t0 c0", "o0 o1 c1 t0 o1 c1 c0"} {
		ofDown().fails(t, two(), events(s), api.ErrForm)
	}
}

func TestP41NoTreeHasTheseUp(t *testing.T) {
	for _, s := range []string{
		"", "t0", "r1", "o0", "c0", "o0 c0", "o0 r0", "r0 o0", "r0 r0", "r0 t0", "t0 r0", "t0 r1", "t0 t1 r1", "r0 t0 r1", "t0 r0 r1", "t0 r0 t1", "r0 t0 t1 r1", "t0 t1 r0 r1", "t0 t1 t2 r1",
		"t0 r0 r0 r1", "r0 r0 r0 r1", "t0 r0 t0 r1", "t1 r0 t2 r1", "t0 r0 t2 r1", "t1 r0 t0 r1", "t-1 r0 t0 r1", "t0 r0 t1 r1 r0", "t0 r0 t1 r1 r1", "t0 r0 t1 r1 t2", "r0 t0 r0 t1 r1", "t0 t1 r0 t2 r1",
		"t0 r0 t1 t2 r1", "t0 r0 t1 r0", "t0 r0 t1 r2", "t0 r0 t1 r-1", "t0 r2 t1 r1", "r2", "r-1", "t0 r0 t1 c1", "t0 c0 t1 r1", "o1 t0 r0 t1 r1", "o1 t0 o0 c0 t1 c1", "t0 r0 t1 r1 t2 r0 t3 r1",
		"t0 r-1 t1 r1",
	} {
		ofUp().fails(t, brackets(), events(s), api.ErrForm)
	}
	for _, s := range []string{"t0 r3", "t0 t1 t2 r3", "r4", "r1", "t0 r4 r1 r0", "t0 r1 r4 r0", "t0 r1 r0", "t0 r1 r1 r1 r0", "r1 t0 r1 r0", "r1 r1 t0 r0", "t0 r1 t1 t2 r3 r0", "t0 r4 r6", "t0 r1 r5 r1 r0", "t0 t1 r3 r2"} {
		ofUp().fails(t, two(), events(s), api.ErrForm)
	}
}

// Kinds and numbers that no event has.
func TestP41WrongEvents(t *testing.T) {
	down, up := events("o1 t0 o0 c0 t1 c1"), events("t0 r0 t1 r1")
	try := func(o of, l []api.Event, want api.Tree) {
		for i, e := range l {
			for _, n := range append(edges(), 5, 6) {
				if n != e.N {
					o.fails(t, brackets(), slices.Concat(l[:i], []api.Event{{Kind: e.Kind, N: n}}, l[i+1:]), api.ErrForm)
				}
				if n != e.Kind {
					o.fails(t, brackets(), slices.Concat(l[:i], []api.Event{{Kind: n, N: e.N}}, l[i+1:]), api.ErrForm)
				}
				o.fails(t, brackets(), slices.Concat(l[:i], []api.Event{{Kind: n, N: 0}}, l[i:]), api.ErrForm)
				o.fails(t, brackets(), slices.Concat(l, []api.Event{{Kind: n, N: 1}}), api.ErrForm)
			}
			o.fails(t, brackets(), slices.Concat(l[:i], l[i+1:]), api.ErrForm)
		}
		o.reads(t, brackets(), l, want)
	}
	try(ofDown(), down, tree("1(. 0() .)"))
	try(ofUp(), up, tree("1(. 0() .)"))
}

func TestP41TheWholeIsOfTheFirstNonterminal(t *testing.T) {
	g := must(t, "2 2\n1: t0\n0: n1\n0: t1\n")
	ofDown().reads(t, g, events("o1 o0 t0 c0 c1"), tree("1(0(.))"))
	ofUp().reads(t, g, events("t0 r0 r1"), tree("1(0(.))"))
	ofDown().fails(t, g, events("o0 t0 c0"), api.ErrForm)
	ofUp().fails(t, g, events("t0 r0"), api.ErrForm)
	for _, l := range [][]api.Event{nil, {}} {
		ofDown().fails(t, g, l, api.ErrForm)
		ofUp().fails(t, g, l, api.ErrForm)
		ofDown().fails(t, grammar(1, 1), l, api.ErrForm)
		ofUp().fails(t, grammar(1, 1), l, api.ErrForm)
	}
	ofDown().fails(t, grammar(1, 1), events("t0"), api.ErrForm)
	ofUp().fails(t, grammar(1, 1), events("t0"), api.ErrForm)
}

func TestP41EventsAreBounded(t *testing.T) {
	ofDown().reads(t, forest(), plainDown(bush(1000)), bush(1000)) // 2000 events
	ofUp().reads(t, forest(), plainUp(bush(1000)), bush(1000))
	for _, many := range []int{1999, 2000} {
		ofDown().fails(t, forest(), make([]api.Event, many), api.ErrForm)
		ofUp().fails(t, forest(), make([]api.Event, many), api.ErrForm)
		ofUp().fails(t, forest(), append(slices.Repeat(events("r0"), many-1), reduce(9)), api.ErrForm)
		ofUp().fails(t, forest(), slices.Repeat(events("r0"), many), api.ErrForm)
	}
	for _, many := range []int{2001, 2002, 1 << 16} {
		ofDown().fails(t, forest(), make([]api.Event, many), api.ErrLarge)
		ofUp().fails(t, forest(), make([]api.Event, many), api.ErrLarge)
		ofUp().fails(t, forest(), slices.Repeat(events("r0"), many), api.ErrLarge)
	}
	ofDown().fails(t, forest(), plainDown(bush(1001)), api.ErrLarge) // 2002 events
	ofDown().fails(t, forest(), append(plainDown(bush(1000)), shut(0)), api.ErrLarge)
	ofUp().fails(t, forest(), plainUp(bush(2001)), api.ErrLarge)
}

// full has productions of eight leaves, of eight Kids, and of none.
func full() api.Grammar {
	return grammar(1, 1, prod(0, slices.Repeat([]api.Sym{term(0)}, 8)...), prod(0, slices.Repeat([]api.Sym{non(0)}, 8)...), prod(0))
}

// crowd is a tree of full with 1225 nodes, of which 1024 are leaves: it has 1426 events from the top.
func crowd() api.Tree {
	eight := node(0, slices.Repeat([]api.Tree{token(0)}, 8)...)
	sixty := node(1, slices.Repeat([]api.Tree{eight}, 8)...)
	two := node(1, append([]api.Tree{sixty, sixty}, slices.Repeat([]api.Tree{node(2)}, 6)...)...)
	return numbered(node(1, slices.Repeat([]api.Tree{two}, 8)...))
}

// A tree with more nodes than there may be, or deeper, is one all the same: it is told by Check's error, and what is none by ErrForm.
func TestP41TreesBeyondTheBounds(t *testing.T) {
	if n, l := count(crowd()), len(plainDown(crowd())); n != 1225 || l != 1426 {
		t.Fatalf("%d nodes, %d events", n, l)
	}
	ofDown().fails(t, full(), plainDown(crowd()), api.ErrLarge)
	ofUp().fails(t, full(), plainUp(crowd()), api.ErrLarge)
	for _, c := range []struct {
		tree     api.Tree
		down, up api.Errno
	}{
		{bush(1001), api.ErrLarge, api.ErrLarge},
		{bush(2000), api.ErrLarge, api.ErrLarge},
		{withLeaf(999), api.OK, api.OK},
		{withLeaf(1000), api.ErrLarge, api.ErrLarge},
		{chain(1, 99, node(0)), api.OK, api.OK},
		{chain(1, 100, node(0)), api.ErrDeep, api.ErrDeep},
		{chain(1, 999, node(0)), api.ErrDeep, api.ErrDeep},    // 2000 events from the top
		{chain(1, 1000, node(0)), api.ErrLarge, api.ErrDeep},  // 2002
		{chain(1, 1999, node(0)), api.ErrLarge, api.ErrDeep},  // 2000 events from below
		{chain(1, 2000, node(0)), api.ErrLarge, api.ErrLarge}, // 2001
		{node(2, chain(1, 99, node(0)), bush(1500)), api.ErrLarge, api.ErrDeep},
		{node(2, bush(1500), chain(1, 99, node(0))), api.ErrLarge, api.ErrLarge},
		{node(2, chain(1, 150, node(3, token(0))), bush(848)), api.ErrLarge, api.ErrDeep},
		{node(2, chain(1, 150, node(3, token(0))), bush(847)), api.ErrDeep, api.ErrDeep},
		{node(2, bush(899), chain(1, 99, node(0))), api.ErrDeep, api.ErrDeep},
		{node(2, bush(899), chain(1, 98, node(3, token(0)))), api.ErrDeep, api.ErrDeep},
		{node(2, bush(900), chain(1, 98, node(3, token(0)))), api.ErrLarge, api.ErrLarge},
	} {
		if err := ofDown().plainly(t, forest(), plainDown(c.tree)); err != c.down {
			t.Errorf("%s: %d, not %d", show(c.tree), err, c.down)
		}
		if err := ofUp().plainly(t, forest(), plainUp(c.tree)); err != c.up {
			t.Errorf("%s: %d, not %d", show(c.tree), err, c.up)
		}
	}
}

// What is no tree is refused as that, however great or deep what comes ahead of the fault is.
func TestP41WrongAndBeyondTheBounds(t *testing.T) {
	for _, x := range []api.Tree{chain(1, 150, node(0)), chain(1, 900, node(0)), node(2, chain(1, 120, node(0)), bush(800)), withLeaf(990)} {
		down, up := plainDown(x), plainUp(x)
		for _, l := range [][]api.Event{down[1:], down[:len(down)-1], append(slices.Clone(down), shut(1)), append(slices.Clone(down), open(0)), append(slices.Clone(down), got(0))} {
			ofDown().fails(t, forest(), l, api.ErrForm)
		}
		ofDown().fails(t, grammar(1, 2, append(forest().Prods, prod(1))...), append(slices.Clone(down[:len(down)-1]), shut(5)), api.ErrForm)
		for _, l := range [][]api.Event{up[1:], append(slices.Clone(up), reduce(2)), append(slices.Clone(up), reduce(0)), append(slices.Clone(up), got(0)), append(slices.Clone(up), reduce(5))} {
			ofUp().fails(t, forest(), l, api.ErrForm)
		}
	}
	down, up := plainDown(crowd()), plainUp(crowd())
	ofDown().fails(t, full(), down[:1425], api.ErrForm)
	ofDown().fails(t, full(), append(slices.Clone(down), shut(1)), api.ErrForm)
	ofDown().fails(t, full(), append(slices.Clone(down[:1425]), shut(0)), api.ErrForm)
	ofUp().fails(t, full(), up[:1224], api.ErrForm)
	ofUp().fails(t, full(), append(slices.Clone(up), reduce(1)), api.ErrForm)
	ofUp().fails(t, full(), append(slices.Clone(up[:1224]), reduce(0)), api.ErrForm)
	other := grammar(1, 2, append(forest().Prods, prod(1, non(0)))...)
	ofUp().fails(t, other, append(plainUp(bush(1500)), reduce(5)), api.ErrForm)
	ofUp().fails(t, other, append(plainUp(chain(1, 500, node(0))), reduce(5)), api.ErrForm)
	ofDown().fails(t, other, slices.Concat(events("o5"), plainDown(chain(1, 500, node(0))), events("c5")), api.ErrForm)
	pairs := must(t, "1 2\n0:\n0: n0\n0: n0 n1\n1:\n0: n0 t0\n")
	deep := chain(1, 150, node(0))
	for _, c := range []struct {
		tree api.Tree
		want api.Errno
	}{
		{node(2, deep, node(3)), api.ErrDeep}, {node(2, deep, node(0)), api.ErrForm}, {node(2, deep, token(0)), api.ErrForm},
		{node(4, deep, token(0)), api.ErrDeep}, {node(4, deep, node(0)), api.ErrForm}, {node(4, deep, node(3)), api.ErrForm}, {node(4, deep, token(1)), api.ErrForm},
		{node(2, deep, node(5)), api.ErrForm}, {node(2, deep), api.ErrForm}, {node(2, deep, node(3), node(3)), api.ErrForm}, {node(3, deep), api.ErrForm},
	} {
		ofDown().fails(t, pairs, plainDown(c.tree), c.want)
		ofUp().fails(t, pairs, plainUp(c.tree), c.want)
	}
	for n := range 3 { // the last leaf has another number
		x := node(2, chain(1, 300, node(0)), node(2, node(3, token(0)), node(3, token(n))))
		want := api.ErrForm
		if n == 1 {
			want = api.ErrDeep
		}
		ofDown().fails(t, forest(), plainDown(x), want)
		ofUp().fails(t, forest(), plainUp(x), want)
	}
}

func TestP41WrongGrammars(t *testing.T) {
	for _, o := range []of{ofDown(), ofUp()} {
		for _, l := range [][]api.Event{nil, events("o0 c0"), events("r0"), make([]api.Event, 2001), plainDown(chain(1, 200, node(0)))} {
			o.fails(t, grammar(1, 1, prod(0), prod(0, term(1))), l, api.ErrArg)
			o.fails(t, grammar(1, 0), l, api.ErrArg)
			o.fails(t, grammar(1, 1, slices.Repeat([]api.Prod{prod(0)}, 41)...), l, api.ErrLarge)
			o.fails(t, grammar(1, 1, prod(0, make([]api.Sym, 9)...)), l, api.ErrLarge)
		}
	}
}

// allLists hands out all lists of up to so many events of these.
func allLists(of []api.Event, most int, each func(l []api.Event)) {
	var add func(l []api.Event)
	add = func(l []api.Event) {
		each(l)
		if len(l) == most {
			return
		}
		for _, e := range of {
			add(append(l, e))
		}
	}
	add(make([]api.Event, 0, most))
}

// All lists of a few events: those of a tree that is grown from the grammar lead back to it, and all others nowhere.
func TestP41AllShortLists(t *testing.T) {
	tried := 0
	try := func(o of, events func(t api.Tree) []api.Event, g api.Grammar, some []api.Event, most int) {
		known := map[string]api.Tree{}
		for _, x := range allTrees(g, non(0), most) { // a tree has no fewer events than nodes
			known[fmt.Sprint(events(numbered(x)))] = numbered(x)
		}
		allLists(some, most, func(l []api.Event) {
			x, err := o.call(g, l)
			if err != api.OK && err != api.ErrForm {
				t.Fatalf("%s(%s, %v): %d", o.name, show(g), l, err)
			}
			o.plainly(t, g, l)
			if err == api.ErrForm && !isZero(x) {
				t.Fatalf("%s(%s, %v): %v beside an error", o.name, show(g), l, x)
			}
			if want, there := known[fmt.Sprint(l)]; there != (err == api.OK) || there && !same(x, want) {
				t.Fatalf("%s(%s, %v): %v %d, not %v", o.name, show(g), l, x, err, want)
			}
			if err == api.OK {
				tried++
			}
		})
	}
	small(1, 1, 2, 2, func(g api.Grammar) {
		try(ofDown(), plainDown, g, events("o0 c0 o1 c1 t0 t1"), 5)
		try(ofUp(), plainUp, g, events("r0 r1 t0 t1 t2"), 5)
	})
	small(1, 2, 2, 1, func(g api.Grammar) {
		try(ofDown(), plainDown, g, events("o0 c0 o1 c1 t0"), 4)
		try(ofUp(), plainUp, g, events("r0 r1 t0 t1"), 5)
	})
	try(ofDown(), plainDown, brackets(), events("o0 o1 c0 c1 t0 t1 t2 r0"), 6)
	try(ofUp(), plainUp, brackets(), events("r0 r1 t0 t1 t2 t3 c0 o1"), 6)
	if tried < 200 {
		t.Errorf("only %d lists had a tree", tried)
	}
}

// changed is l, in new memory, with something changed.
func changed(rng *rand.Rand, l []api.Event) []api.Event {
	l = slices.Clone(l)
	at, other := rng.Intn(len(l)), rng.Intn(len(l))
	switch rng.Intn(7) {
	case 0:
		l[at].Kind = rng.Intn(6)
	case 1:
		l[at].N = edges()[rng.Intn(len(edges()))]
	case 2:
		l[at].N += rng.Intn(3) - 1
	case 3:
		l[at], l[other] = l[other], l[at]
	case 4:
		l = slices.Insert(l, at, l[other])
	case 5:
		l = slices.Delete(l, at, at+1)
	case 6:
		l = l[:at]
	}
	return l
}

func TestP41Samples(t *testing.T) {
	rng := rand.New(rand.NewSource(3))
	told := map[string]map[api.Errno]int{"OfDown": {}, "OfUp": {}}
	for range 5000 {
		g := wild(rng, 1+rng.Intn(4), 1+rng.Intn(5), 1+rng.Intn(12), 1+rng.Intn(8), rng.Intn(10))
		x, ok := wildTree(rng, g, []int{1, 5, 20, 60, 300, 900, 1200, 1500}[rng.Intn(8)], []int{5, 20, 90, 100, 150, 300}[rng.Intn(6)])
		if !ok {
			continue
		}
		down, up := plainDown(x), plainUp(x)
		err := ofDown().plainly(t, g, down)
		if err == api.OK {
			ofDown().reads(t, g, down, x)
		}
		told["OfDown"][err]++
		err = ofUp().plainly(t, g, up)
		if err == api.OK {
			ofUp().reads(t, g, up, x)
		}
		told["OfUp"][err]++
		for range 3 {
			told["OfDown"][ofDown().plainly(t, g, changed(rng, down))]++
			told["OfUp"][ofUp().plainly(t, g, changed(rng, up))]++
		}
	}
	for name, of := range told {
		if of[api.OK] < 1000 || of[api.ErrForm] < 1000 || of[api.ErrLarge] < 100 || of[api.ErrDeep] < 50 {
			t.Errorf("%s told: %v", name, of)
		}
	}
}
