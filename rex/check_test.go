package rex_test

import (
	"math"
	"math/rand"
	"testing"

	"pushmill/api"
	"pushmill/rex"
)

// plainCheck goes through the nodes as the chapter words it, with those that are still to come in a list.
func plainCheck(r api.Rex) api.Errno {
	type entry struct {
		r    api.Rex
		deep int
	}
	kidsOf := map[int]int{1: 0, 2: 0, 3: 0, 4: 2, 5: 2, 6: 1}
	todo := []entry{{r, 1}}
	for number := 1; len(todo) > 0; number++ {
		now := todo[0]
		if number == 101 {
			return api.ErrLarge
		}
		if now.deep > 30 {
			return api.ErrDeep
		}
		kids, known := kidsOf[now.r.Kind]
		if !known || len(now.r.Kids) != kids {
			return api.ErrArg
		}
		if isByte := now.r.Kind == 3; isByte == (read(now.r.Class) == set{}) {
			return api.ErrArg
		}
		var next []entry
		for _, kid := range now.r.Kids {
			next = append(next, entry{kid, now.deep + 1})
		}
		todo = append(next, todo[1:]...)
	}
	return api.OK
}

// sameCheck fails, if Check answers otherwise than the chapter's words.
func sameCheck(t *testing.T, r api.Rex) {
	t.Helper()
	if got, want := rex.Check(r), plainCheck(r); got != want {
		t.Fatalf("Check(%s) = %d, not %d", show(r), got, want)
	}
}

// oddKinds has the six kinds, and numbers that are none.
func oddKinds() []int {
	return []int{1, 2, 3, 4, 5, 6, 0, -1, 7, 8, 255, 256 + 3, 1<<32 + 3, math.MinInt, math.MaxInt}
}

// wrongNodes has nodes each of which has one thing wrong.
func wrongNodes() []api.Rex {
	a := of("a")
	l := []api.Rex{{}, {Kind: 3}, {Kind: 4}, {Kind: 5}, {Kind: 6}}
	for _, kind := range oddKinds() {
		for kids := range 4 {
			for _, class := range []api.Class{{}, a.Class, {0, 0, 0, 1}, {1, 0, 0, 0}} {
				r := api.Rex{Kind: kind, Class: class}
				for range kids {
					r.Kids = append(r.Kids, a)
				}
				if plainCheck(r) != api.OK {
					l = append(l, r)
				}
			}
		}
	}
	return l
}

// withoutEnd has trees whose lists of Kids lie within themselves.
func withoutEnd() []api.Rex {
	var l []api.Rex
	one := []api.Rex{{Kind: api.RStar}}
	one[0].Kids = one
	l = append(l, one[0], star(one[0]), cat(of("a"), one[0]), cat(none(), alt(empty(), one[0])))
	for _, kinds := range [][2]int{{4, 4}, {5, 4}, {5, 5}} {
		both := []api.Rex{{Kind: kinds[0]}, {Kind: kinds[1]}}
		both[0].Kids, both[1].Kids = both, both
		right := []api.Rex{of("a"), {Kind: kinds[0]}}
		right[1].Kids = right
		left := []api.Rex{{Kind: kinds[1]}, of("a")}
		left[0].Kids = left
		l = append(l, both[0], both[1], right[1], left[0], star(both[0]))
	}
	wrong := []api.Rex{{Kind: api.RCat}}
	wrong[0].Kids = wrong
	return append(l, wrong[0])
}

// hundred has trees of just a hundred nodes.
func hundred() []api.Rex {
	leaf := of("a")
	f := full(6, leaf) // 63 nodes
	g := full(5, leaf) // 31
	return []api.Rex{stars(4, cat(f, stars(1, g))), cat(cat(g, stars(3, f)), empty()), alt(f, cat(g, stars(3, leaf))), stars(5, alt(g, f))}
}

func TestP12Known(t *testing.T) {
	a := of("a")
	for _, c := range []struct {
		r    api.Rex
		want api.Errno
	}{
		{none(), api.OK},
		{empty(), api.OK},
		{a, api.OK},
		{but(""), api.OK},
		{of("\x00"), api.OK},
		{of("\xff"), api.OK},
		{cat(a, a), api.OK},
		{alt(none(), empty()), api.OK},
		{star(a), api.OK},
		{api.Rex{Kind: api.RNone, Kids: []api.Rex{}}, api.OK},
		{api.Rex{Kind: api.RNone, Class: a.Class}, api.ErrArg},
		{api.Rex{Kind: api.REmpty, Class: a.Class}, api.ErrArg},
		{api.Rex{Kind: api.RByte}, api.ErrArg},
		{api.Rex{Kind: api.RByte, Class: a.Class, Kids: []api.Rex{a}}, api.ErrArg},
		{api.Rex{Kind: api.RStar, Class: a.Class, Kids: []api.Rex{a}}, api.ErrArg},
		{api.Rex{Kind: api.RCat, Class: a.Class, Kids: []api.Rex{a, a}}, api.ErrArg},
		{api.Rex{Kind: api.RAlt, Class: a.Class, Kids: []api.Rex{a, a}}, api.ErrArg},
		{api.Rex{Kind: api.RStar, Kids: []api.Rex{a, a}}, api.ErrArg},
		{api.Rex{Kind: api.RCat, Kids: []api.Rex{a}}, api.ErrArg},
		{api.Rex{Kind: api.RAlt, Kids: []api.Rex{a, a, a}}, api.ErrArg},
		{api.Rex{}, api.ErrArg},
		{api.Rex{Kind: 7}, api.ErrArg},
		{api.Rex{Kind: -1}, api.ErrArg},
		{cat(a, api.Rex{}), api.ErrArg},
		{stars(29, a), api.OK},
		{stars(30, a), api.ErrDeep},
		{cat(stars(28, a), stars(28, a)), api.OK},
		{cat(stars(28, a), stars(29, a)), api.ErrDeep},
		{full(6, a), api.OK},
		{full(7, a), api.ErrLarge},
	} {
		if got := rex.Check(c.r); got != c.want {
			t.Errorf("Check(%s) = %d, not %d", show(c.r), got, c.want)
		}
	}
}

func TestP12EachKindWithEachNumberOfKids(t *testing.T) {
	for _, kind := range oddKinds() {
		for kids := range 5 {
			for _, class := range []api.Class{{}, {1}, {0, 1}, {0, 0, 1}, {0, 0, 0, 1 << 63}, {1, 1, 1, 1}} {
				r := api.Rex{Kind: kind, Class: class}
				for range kids {
					r.Kids = append(r.Kids, of("k"))
				}
				sameCheck(t, r)
				sameCheck(t, star(r))
				sameCheck(t, cat(of("a"), r))
			}
		}
	}
}

func TestP12HowManyNodes(t *testing.T) {
	for _, r := range hundred() {
		if size(r) != 100 {
			t.Fatalf("%s has %d nodes", show(r), size(r))
		}
		if got := rex.Check(r); got != api.OK {
			t.Errorf("a hundred nodes: %d", got)
		}
		for _, more := range []api.Rex{star(r), cat(of("a"), r), alt(r, of("a"))} {
			if got := rex.Check(more); got != api.ErrLarge {
				t.Errorf("%d nodes: %d", size(more), got)
			}
		}
	}
}

// What is wrong at a node is told in its order, and of two nodes that of the one which comes first.
func TestP12WhichErrorIsFirst(t *testing.T) {
	a, wrong := of("a"), api.Rex{Kind: 9}
	deepest := stars(29, a)
	ninetyEight := alt(full(6, a), cat(full(4, a), stars(17, a)))
	ahead := star(ninetyEight) // with a node around it there are a hundred
	if n := size(ahead); n != 99 {
		t.Fatalf("%d nodes", n)
	}
	for i, c := range []struct {
		r    api.Rex
		want api.Errno
	}{
		{stars(30, wrong), api.ErrDeep},               // deep and wrong at one node
		{stars(29, wrong), api.ErrArg},                // the last one that may be
		{cat(wrong, stars(30, a)), api.ErrArg},        // wrong ahead of deep
		{cat(stars(30, a), wrong), api.ErrDeep},       // deep ahead of wrong
		{cat(ahead, wrong), api.ErrLarge},             // many and wrong at one node
		{cat(ninetyEight, wrong), api.ErrArg},         // the hundredth node
		{cat(ninetyEight, star(wrong)), api.ErrLarge}, // the one behind it
		{cat(wrong, ahead), api.ErrArg},
		{cat(ahead, stars(29, a)), api.ErrLarge},
		{cat(stars(29, a), ahead), api.ErrDeep},
		{cat(full(6, a), cat(deepest, a)), api.ErrDeep},
		{api.Rex{Kind: 9, Kids: []api.Rex{stars(30, a)}}, api.ErrArg},
		{api.Rex{Kind: api.RCat, Kids: make([]api.Rex, 1000)}, api.ErrArg},
	} {
		if got := rex.Check(c.r); got != c.want {
			t.Errorf("case %d: %d, not %d", i, got, c.want)
		}
		sameCheck(t, c.r)
	}
}

// The node that is the 101st and 31 deep, both at one time, is told to be too many.
func TestP12TooManyAheadOfTooDeep(t *testing.T) {
	a := of("a")
	for more := range 20 {
		filler := stars(more, full(6, a))
		sameCheck(t, cat(filler, stars(30, a)))
		sameCheck(t, cat(filler, stars(29, api.Rex{})))
	}
	// A node, 70 within its first Kid, then a chain whose last node is number 101 and 31 deep.
	r := cat(stars(7, full(6, a)), stars(29, a))
	if n := size(r); n != 101 {
		t.Fatalf("%d nodes", n)
	}
	if got := rex.Check(r); got != api.ErrLarge {
		t.Errorf("the 101st node, 31 deep: %d", got)
	}
}

// broken is r with the node of that number, and all within it, replaced.
func broken(r api.Rex, number *int, by api.Rex) api.Rex {
	*number--
	if *number < 0 {
		return by
	}
	r = api.Rex{Kind: r.Kind, Class: r.Class, Kids: append([]api.Rex(nil), r.Kids...)}
	for i := range r.Kids {
		if *number >= 0 {
			r.Kids[i] = broken(r.Kids[i], number, by)
		}
	}
	return r
}

func TestP12WrongNodesAnywhere(t *testing.T) {
	trees := append(hundred(), stars(29, of("a")), full(7, of("a")), stars(35, none()), cats(of("a"), of("b"), of("c"), star(of("d"))))
	for _, wrong := range wrongNodes() {
		sameCheck(t, wrong)
		for _, r := range trees {
			for at := 0; at < size(r); at += 7 {
				number := at
				sameCheck(t, broken(r, &number, wrong))
			}
		}
	}
}

func TestP12WildTrees(t *testing.T) {
	rng := rand.New(rand.NewSource(1))
	wrong := wrongNodes()
	seen := map[api.Errno]int{}
	for range 5000 {
		r := wildTree(rng, 1+rng.Intn(130))
		if rng.Intn(3) == 0 {
			r = stars(rng.Intn(31), r)
		}
		for range rng.Intn(3) {
			number := rng.Intn(size(r))
			by := wrong[rng.Intn(len(wrong))]
			if rng.Intn(2) == 0 {
				by = stars(rng.Intn(31), of("x"))
			}
			r = broken(r, &number, by)
		}
		sameCheck(t, r)
		seen[plainCheck(r)]++
	}
	for _, err := range []api.Errno{api.OK, api.ErrArg, api.ErrLarge, api.ErrDeep} {
		if seen[err] < 150 {
			t.Errorf("only %d trees with error %d", seen[err], err)
		}
	}
}

func TestP12TreesWithoutEnd(t *testing.T) {
	for _, r := range withoutEnd() {
		sameCheck(t, r)
		if rex.Check(r) == api.OK {
			t.Errorf("%s is taken", show(r))
		}
	}
}
