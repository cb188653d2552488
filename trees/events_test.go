package trees_test

import (
	"math/rand"
	"slices"
	"testing"

	"pushmill/api"
	"pushmill/trees"
)

func TestP40KnownEvents(t *testing.T) {
	sums := must(t, "3 2\n0: n0 t1 n1\n0: n1\n1: t0\n1: t2 n0\n")
	for _, c := range []struct {
		g        api.Grammar
		tree     string
		down, up string
	}{
		{brackets(), "0()", "o0 c0", "r0"},
		{brackets(), "1(. 0() .)", "o1 t0 o0 c0 t1 c1", "t0 r0 t1 r1"},
		{brackets(), "1(. 1(. 0() .) .)", "o1 t0 o1 t1 o0 c0 t2 c1 t3 c1", "t0 t1 r0 t2 r1 t3 r1"},
		{two(), "3(. .)", "o3 t0 t1 c3", "t0 t1 r3"},
		{two(), "0(. 1() 2(3(. .) .))", "o0 t0 o1 c1 o2 o3 t1 t2 c3 t3 c2 c0", "t0 r1 t1 t2 r3 t3 r2 r0"},
		{two(), "0(. 5(6(4())) 1())", "o0 t0 o5 o6 o4 c4 c6 c5 o1 c1 c0", "t0 r4 r6 r5 r1 r0"},
		{sums, "0(1(2(.)) . 3(. 1(2(.))))", "o0 o1 o2 t0 c2 c1 t1 o3 t2 o1 o2 t3 c2 c1 c3 c0", "t0 r2 r1 t1 t2 t3 r2 r1 r3 r0"},
		{forest(), "4(0() 3(.) 0() 0() 1(0()) 0() 0() 3(.))", "o4 o0 c0 o3 t0 c3 o0 c0 o0 c0 o1 o0 c0 c1 o0 c0 o0 c0 o3 t1 c3 c4", "r0 t0 r3 r0 r0 r0 r1 r0 r0 t1 r3 r4"},
	} {
		tells(t, c.g, tree(c.tree), events(c.down), events(c.up))
	}
}

func TestP40Bounds(t *testing.T) {
	tells(t, forest(), bush(1000), plainDown(bush(1000)), plainUp(bush(1000)))
	if n := len(plainDown(bush(1000))); n != 2000 {
		t.Errorf("%d events", n)
	}
	tall := chain(1, 99, node(0))
	l := append(slices.Repeat(events("o1"), 99), events("o0 c0")...)
	tells(t, forest(), tall, append(l, slices.Repeat(events("c1"), 99)...), append(events("r0"), slices.Repeat(events("r1"), 99)...))
}

// What is no tree has no events, with the error that Check tells of it; all kinds of wrong trees are tried with Check itself.
func TestP40WrongTrees(t *testing.T) {
	wrong(t, forest(), bush(1001), api.ErrLarge)
	wrong(t, forest(), chain(1, 100, node(0)), api.ErrDeep)
	wrong(t, forest(), node(5), api.ErrForm)
	wrong(t, forest(), token(0), api.ErrForm)
	wrong(t, brackets(), node(1, token(0), node(0), token(2)), api.ErrForm)
	wrong(t, grammar(1, 0), node(0), api.ErrArg)
	wrong(t, grammar(1, 1, slices.Repeat([]api.Prod{prod(0)}, 41)...), node(0), api.ErrLarge)
}

// Of each production there is one event that opens it and one that closes it, or one reduce; of each leaf one event.
func TestP40HowManyEvents(t *testing.T) {
	rng := rand.New(rand.NewSource(2))
	tried := 0
	for range 2000 {
		g := wild(rng, 1+rng.Intn(4), 1+rng.Intn(5), 1+rng.Intn(12), 1+rng.Intn(8), rng.Intn(10))
		x, ok := wildTree(rng, g, 1+rng.Intn(900), 5+rng.Intn(80))
		if !ok || trees.Check(g, x) != api.OK {
			continue
		}
		word, _ := trees.Yield(g, x)
		down, _ := trees.Down(g, x)
		up, _ := trees.Up(g, x)
		if nodes := count(x); len(up) != nodes || len(down) != 2*nodes-len(word) {
			t.Fatalf("%s, %s: %d and %d events, of %d leaves", show(g), show(x), len(down), len(up), len(word))
		}
		tried++
	}
	if tried < 500 {
		t.Errorf("only %d trees were tried", tried)
	}
}
