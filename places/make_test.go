package places_test

import (
	"math/rand"
	"slices"
	"testing"

	"pushmill/api"
	"pushmill/places"
	"pushmill/rex"
)

// makes: does Make answer want of these rules?
func makes(t *testing.T, rules []api.Rex, want api.Posn) {
	t.Helper()
	got, err := places.Make(rules)
	if err != api.OK || !same(got, want) {
		t.Errorf("Make(%s) = %s, %d, not %s", show(rules), show(got), err, show(want))
	}
}

// refuses: does Make answer that error, and nothing else?
func refuses(t *testing.T, rules []api.Rex, want api.Errno) {
	t.Helper()
	p, err := places.Make(rules)
	zero := p.Classes == nil && p.Rules == nil && p.First == nil && p.Follow == nil && p.Last == nil && p.Empty == nil
	if err != want || !zero {
		t.Errorf("Make(%s) = %s, %d, not %d alone", show(rules), show(p), err, want)
	}
}

// classes has one of the bytes of each text.
func classes(texts ...string) []api.Class {
	var l []api.Class
	for _, s := range texts {
		l = append(l, bytesOf(s))
	}
	return l
}

func TestP16OfEachKind(t *testing.T) {
	one := api.Posn{Classes: classes("ab"), Rules: []int{0}, First: []int{0}, Follow: [][]int{nil}, Last: []bool{true}, Empty: []bool{false}}
	makes(t, []api.Rex{of("ab")}, one)
	makes(t, []api.Rex{none()}, api.Posn{Empty: []bool{false}})
	makes(t, []api.Rex{empty()}, api.Posn{Empty: []bool{true}})
	makes(t, []api.Rex{cat(of("a"), of("b"))}, api.Posn{
		Classes: classes("a", "b"), Rules: []int{0, 0}, First: []int{0}, Follow: [][]int{{1}, nil}, Last: []bool{false, true}, Empty: []bool{false},
	})
	makes(t, []api.Rex{alt(of("a"), of("b"))}, api.Posn{
		Classes: classes("a", "b"), Rules: []int{0, 0}, First: []int{0, 1}, Follow: [][]int{nil, nil}, Last: []bool{true, true}, Empty: []bool{false},
	})
	makes(t, []api.Rex{star(of("a"))}, api.Posn{
		Classes: classes("a"), Rules: []int{0}, First: []int{0}, Follow: [][]int{{0}}, Last: []bool{true}, Empty: []bool{true},
	})
}

func TestP16Examples(t *testing.T) {
	makes(t, rules(t, "(a|b)*a", "a"), api.Posn{
		Classes: classes("a", "b", "a", "a"), Rules: []int{0, 0, 0, 1}, First: []int{0, 1, 2, 3},
		Follow: [][]int{{0, 1, 2}, {0, 1, 2}, nil, nil}, Last: []bool{false, false, true, true}, Empty: []bool{false, false},
	})
	makes(t, rules(t, "a*b*"), api.Posn{
		Classes: classes("a", "b"), Rules: []int{0, 0}, First: []int{0, 1},
		Follow: [][]int{{0, 1}, {1}}, Last: []bool{true, true}, Empty: []bool{true},
	})
	// What comes behind a place within a star is found later than what comes there by an RCat, and rises all the same.
	makes(t, rules(t, "(ab?)*"), api.Posn{
		Classes: classes("a", "b"), Rules: []int{0, 0}, First: []int{0},
		Follow: [][]int{{0, 1}, {0}}, Last: []bool{true, true}, Empty: []bool{true},
	})
	makes(t, rules(t, "((((a*b?)*)*c)*)*"), api.Posn{
		Classes: classes("a", "b", "c"), Rules: []int{0, 0, 0}, First: []int{0, 1, 2},
		Follow: [][]int{{0, 1, 2}, {0, 1, 2}, {0, 1, 2}}, Last: []bool{false, false, true}, Empty: []bool{true},
	})
	makes(t, rules(t, "()", "a", "[]", "b*", "()|c"), api.Posn{
		Classes: classes("a", "b", "c"), Rules: []int{1, 3, 4}, First: []int{0, 1, 2},
		Follow: [][]int{nil, {1}, nil}, Last: []bool{true, true, true}, Empty: []bool{true, false, false, true, true},
	})
}

// Whether a Kid matches no text is not asked.
func TestP16ByTheShapeAlone(t *testing.T) {
	a, b := of("a"), of("b")
	p := api.Posn{Classes: classes("a"), Rules: []int{0}, First: []int{0}, Follow: [][]int{nil}, Last: []bool{false}, Empty: []bool{false}}
	makes(t, []api.Rex{cat(a, none())}, p)
	p.First, p.Last = nil, []bool{true}
	makes(t, []api.Rex{cat(none(), a)}, p)
	p.First = []int{0}
	makes(t, []api.Rex{alt(none(), a)}, p)
	makes(t, []api.Rex{cat(star(none()), a)}, api.Posn{
		Classes: classes("a"), Rules: []int{0}, First: []int{0}, Follow: [][]int{nil}, Last: []bool{true}, Empty: []bool{false},
	})
	makes(t, []api.Rex{star(cat(cat(a, none()), b))}, api.Posn{
		Classes: classes("a", "b"), Rules: []int{0, 0}, First: []int{0},
		Follow: [][]int{nil, {0}}, Last: []bool{false, true}, Empty: []bool{true},
	})
	makes(t, []api.Rex{cat(cat(a, star(b)), none())}, api.Posn{
		Classes: classes("a", "b"), Rules: []int{0, 0}, First: []int{0},
		Follow: [][]int{{1}, {1}}, Last: []bool{false, false}, Empty: []bool{false},
	})
}

// fits: does Make answer what both other readings say? That by walks is left out for trees that have too many.
func fits(t *testing.T, rules []api.Rex, walked bool) {
	t.Helper()
	want := byNet(rules)
	if walked {
		also := byWalks(rules)
		also.Classes, also.Rules = want.Classes, want.Rules
		if !same(want, also) {
			t.Fatalf("%s is read in two ways: %s, %s", show(rules), show(want), show(also))
		}
	}
	makes(t, rules, want)
}

func TestP16AllSmallRules(t *testing.T) {
	leaves := []api.Rex{none(), empty(), of("a")}
	for _, r := range treesUpTo(7, leaves...) {
		fits(t, []api.Rex{r}, true)
	}
	small := treesUpTo(4, leaves...)
	for _, a := range small {
		for _, b := range small {
			fits(t, []api.Rex{a, b}, true)
		}
	}
}

func TestP16SampledRules(t *testing.T) {
	rng := rand.New(rand.NewSource(1))
	greatest := 0
	for range 3000 {
		l := wildRules(rng, 20, 1+rng.Intn(90))
		want := byNet(l)
		if len(want.Classes) > 200 {
			refuses(t, l, api.ErrLarge)
			continue
		}
		makes(t, l, want)
		greatest = max(greatest, len(want.Classes))
	}
	if greatest < 195 {
		t.Errorf("no more than %d places are tried", greatest)
	}
}

func TestP16HowManyRules(t *testing.T) {
	refuses(t, nil, api.ErrArg)
	refuses(t, []api.Rex{}, api.ErrArg)
	for n := 1; n <= 20; n++ {
		fits(t, slices.Repeat([]api.Rex{of("a")}, n), true)
	}
	for _, n := range []int{21, 22, 40, 1000, 1 << 16} {
		refuses(t, slices.Repeat([]api.Rex{of("a")}, n), api.ErrArg)
	}
}

func TestP16HowManyPlaces(t *testing.T) {
	fifty := row(50)
	fits(t, []api.Rex{fifty}, true)
	fits(t, []api.Rex{fifty, fifty, fifty, row(49)}, true)
	fits(t, []api.Rex{fifty, fifty, fifty, fifty}, true)
	fits(t, []api.Rex{fifty, empty(), fifty, none(), fifty, star(empty()), fifty}, true)
	fits(t, slices.Repeat([]api.Rex{row(10)}, 20), true)
	refuses(t, []api.Rex{fifty, fifty, fifty, fifty, of("a")}, api.ErrLarge)
	refuses(t, []api.Rex{of("a"), fifty, fifty, fifty, fifty}, api.ErrLarge)
	refuses(t, append(slices.Repeat([]api.Rex{row(10)}, 19), row(11)), api.ErrLarge)
	refuses(t, slices.Repeat([]api.Rex{fifty}, 20), api.ErrLarge)
	refuses(t, slices.Repeat([]api.Rex{fifty}, 21), api.ErrArg)
}

// wrongTrees has trees with each error that rex.Check has.
func wrongTrees() []api.Rex {
	deep := of("a")
	for range 30 {
		deep = star(deep)
	}
	odd := of("a")
	odd.Kids = []api.Rex{of("a")}
	named := star(of("a"))
	named.Class = bytesOf("a")
	round := []api.Rex{{Kind: api.RStar}}
	round[0].Kids = round
	return []api.Rex{
		{}, {Kind: -1}, {Kind: 7}, {Kind: api.RByte}, {Kind: api.RStar}, {Kind: api.RCat, Kids: []api.Rex{of("a")}},
		{Kind: api.RAlt, Kids: []api.Rex{of("a"), of("b"), of("c")}}, odd, named, cat(of("a"), star(api.Rex{Kind: api.RByte})),
		deep, row(51), cat(row(50), of("a")), round[0],
	}
}

func TestP16TheFirstErrorOfARule(t *testing.T) {
	good := []api.Rex{of("a"), star(alt(of("a"), none())), row(50)}
	errors := map[api.Errno]int{}
	for _, wrong := range wrongTrees() {
		want := rex.Check(wrong)
		errors[want]++
		refuses(t, []api.Rex{wrong}, want)
		for at := range len(good) + 1 {
			refuses(t, slices.Insert(slices.Clone(good), at, wrong), want)
		}
		for _, other := range wrongTrees() {
			refuses(t, []api.Rex{of("a"), wrong, other}, want)
		}
		refuses(t, append(slices.Repeat([]api.Rex{row(50)}, 5), wrong), want)        // there are too many places as well
		refuses(t, append(slices.Repeat([]api.Rex{of("a")}, 20), wrong), api.ErrArg) // there are too many rules as well
		refuses(t, slices.Repeat([]api.Rex{wrong}, 21), api.ErrArg)
	}
	if errors[api.ErrArg] == 0 || errors[api.ErrDeep] == 0 || errors[api.ErrLarge] == 0 || errors[api.OK] > 0 {
		t.Errorf("these errors are tried: %v", errors)
	}
}
