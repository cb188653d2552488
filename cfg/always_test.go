package cfg_test

import (
	"math"
	"math/rand"
	"reflect"
	"slices"
	"strings"
	"sync"
	"testing"
	"unsafe"

	"pushmill/api"
	"pushmill/cfg"
)

// wildText has bytes of all kinds, or only such as a grammar's text has.
func wildText(rng *rand.Rand, length int) string {
	signs := "0123456789 :tn\n"
	l := make([]byte, length)
	mixed := rng.Intn(2) == 0
	for i := range l {
		l[i] = signs[rng.Intn(len(signs))]
		if mixed {
			l[i] = byte(rng.Intn(256))
		}
	}
	return string(l)
}

func TestP1AnswersWhateverIsGiven(t *testing.T) {
	rng := rand.New(rand.NewSource(11))
	lengths := []int{0, 1, 2, 3, 9, 50, 4095, 4096, 4097, 5000}
	for range 10000 {
		g := anyGrammar(rng)
		checks(t, g, plainCheck(g))
		cfg.Of(g, edges()[rng.Intn(len(edges()))])
		cfg.Mirror(g)
		cfg.Write(g)
		readsPlainly(t, wildText(rng, lengths[rng.Intn(len(lengths))]))
	}
	huge := grammar(1, 1, slices.Repeat([]api.Prod{prod(math.MinInt, make([]api.Sym, 1<<16)...)}, 1<<16)...)
	refused(t, huge, api.ErrLarge)
	huge.Prods = huge.Prods[:1]
	refused(t, huge, api.ErrLarge)
	refused(t, grammar(math.MaxInt, math.MaxInt), api.ErrArg)
	refused(t, grammar(math.MinInt, math.MinInt), api.ErrArg)
	readFails(t, strings.Repeat("1 1\n", 1<<20), 0, api.ErrLarge)
}

// room is the memory of a list or a text, from its first byte to behind its spare room.
type room struct{ from, to uintptr }

// roomOf has the memory of a list, if it has any.
func roomOf[T any](list []T) []room {
	if cap(list) == 0 {
		return nil
	}
	from := uintptr(unsafe.Pointer(unsafe.SliceData(list)))
	var one T
	return []room{{from, from + uintptr(cap(list))*unsafe.Sizeof(one)}}
}

// textRoom has the memory of a text, if it has any.
func textRoom(s string) []room {
	if s == "" {
		return nil
	}
	from := uintptr(unsafe.Pointer(unsafe.StringData(s)))
	return []room{{from, from + uintptr(len(s))}}
}

// grammarRooms has the memory of all lists of g.
func grammarRooms(g api.Grammar) []room {
	l := roomOf(g.Prods)
	for _, p := range g.Prods {
		l = append(l, roomOf(p.Body)...)
	}
	return l
}

// apart: do these share no memory?
func apart(l []room) bool {
	slices.SortFunc(l, func(a, b room) int { return int(a.from) - int(b.from) })
	for i := 1; i < len(l); i++ {
		if l[i-1].to > l[i].from {
			return false
		}
	}
	return true
}

func TestP2AnswersAreNewMemory(t *testing.T) {
	rng := rand.New(rand.NewSource(12))
	for range 1000 {
		g := roomyGrammar(wildOne(rng))
		s, _ := cfg.Write(g)
		u, _ := cfg.Write(g)
		m, _ := cfg.Mirror(g)
		n, _ := cfg.Mirror(g)
		h, _, _ := cfg.Read(s)
		k, _, _ := cfg.Read(s)
		of, _ := cfg.Of(g, 0)
		as, _ := cfg.Of(g, 0)
		l := slices.Concat(textRoom(s), textRoom(u), roomOf(of), roomOf(as))
		for _, each := range []api.Grammar{g, m, n, h, k} {
			l = append(l, grammarRooms(each)...)
		}
		if !apart(l) {
			t.Fatalf("of %s: lists or texts share their memory", show(g))
		}
	}
}

// roomy is a list with spare room behind it, in which spare stands.
func roomy[T any](list []T, spare T) []T {
	l := append(make([]T, 0, len(list)+2), list...)
	_ = append(l, spare, spare)
	return l
}

// roomyGrammar is g with spare room behind each list.
func roomyGrammar(g api.Grammar) api.Grammar {
	prods := make([]api.Prod, len(g.Prods))
	for i, p := range g.Prods {
		prods[i] = prod(p.Head, roomy(p.Body, api.Sym{Kind: 7, N: 77})...)
	}
	return grammar(g.Terms, g.Nons, roomy(prods, prod(77, term(77)))...)
}

// wholeGrammar is g with its spare room as a part of each list.
func wholeGrammar(g api.Grammar) api.Grammar {
	prods := slices.Clone(g.Prods[:cap(g.Prods)])
	for i, p := range prods {
		prods[i].Body = p.Body[:cap(p.Body)]
	}
	return grammar(g.Terms, g.Nons, prods...)
}

func TestP2WhatIsHandedInStays(t *testing.T) {
	rng := rand.New(rand.NewSource(13))
	for range 2000 {
		g := anyGrammar(rng)
		given := roomyGrammar(g)
		cfg.Check(given)
		cfg.Of(given, rng.Intn(5))
		cfg.Mirror(given)
		cfg.Write(given)
		if !reflect.DeepEqual(wholeGrammar(given), wholeGrammar(roomyGrammar(g))) {
			t.Fatalf("%s is changed", show(g))
		}
		text := []byte(patched(rng, plainWrite(wildOne(rng))))
		before := string(text)
		cfg.Read(unsafe.String(&text[0], len(text))) // its memory is looked at, as a change would be seen there
		if string(text) != before {
			t.Fatalf("%q is changed", before)
		}
	}
}

// What is answered stays when what was handed in is changed, and a call does not hang on those ahead of it.
func TestP2NothingIsKept(t *testing.T) {
	const s = "2 1\n0:\n0: t0 n0 t1\n"
	const turned = "2 1\n0:\n0: t1 n0 t0\n"
	text := []byte(s)
	g, _, _ := cfg.Read(unsafe.String(&text[0], len(text)))
	copy(text, "????????????????")
	given := brackets()
	m, _ := cfg.Mirror(given)
	l, _ := cfg.Of(given, 0)
	written, _ := cfg.Write(given)
	given.Prods[0].Head, given.Prods[1].Body[0] = 7, term(77)
	writes(t, g, s)
	writes(t, m, turned)
	if !slices.Equal(l, []int{0, 1}) || written != s {
		t.Errorf("it is changed: %v %q", l, written)
	}
	m.Prods[0].Head, m.Prods[1].Body[0], l[0] = 7, term(77), 77
	writes(t, g, s)
	of(t, g, 0, 0, 1)
	refused(t, m, api.ErrArg)
	refused(t, given, api.ErrArg)
	readFails(t, "2 1\n0:\n?", 3, api.ErrSyntax)
	mirrors(t, brackets(), must(t, turned))
	writes(t, brackets(), s)
}

func TestP2CallsAtOneTimeDoNotMeet(t *testing.T) {
	g, great := brackets(), greatest()
	s, long := plainWrite(g), plainWrite(great)
	wrong := grammar(1, 1, prod(1))
	turned := must(t, "2 1\n0:\n0: t1 n0 t0\n")
	var wait sync.WaitGroup
	for range 8 {
		wait.Go(func() {
			for range 200 {
				writes(t, g, s)
				writes(t, great, long)
				mirrors(t, g, turned)
				of(t, g, 0, 0, 1)
				of(t, great, 0)
				refused(t, wrong, api.ErrArg)
				readFails(t, long[:len(long)-1], 41, api.ErrSyntax)
			}
		})
	}
	wait.Wait()
}
