package places_test

import (
	"math"
	"math/rand"
	"slices"
	"strings"
	"testing"

	"pushmill/api"
	"pushmill/places"
	"pushmill/rex"
)

// made is the places of texts of rules.
func made(t *testing.T, texts ...string) api.Posn {
	t.Helper()
	p, err := places.Make(rules(t, texts...))
	if err != api.OK {
		t.Fatalf("Make(%q): %d", texts, err)
	}
	return p
}

// line is so many places of one rule, all of the byte a, one behind the other.
func line(n int) api.Posn {
	p := api.Posn{First: []int{0}, Empty: []bool{false}}
	for place := range n {
		p.Classes = append(p.Classes, bytesOf("a"))
		p.Rules = append(p.Rules, 0)
		p.Follow = append(p.Follow, []int{place + 1})
		p.Last = append(p.Last, place == n-1)
	}
	if n == 0 {
		p.First = nil
	} else {
		p.Follow[n-1] = nil
	}
	return p
}

// crowd is so many places of the bytes a and z, of one rule, each of which may come behind each.
func crowd(n int) api.Posn {
	p := line(n)
	var all []int
	for place := range n {
		all = append(all, place)
	}
	p.First = all
	for place := range n {
		p.Classes[place] = bytesOf("az")
		p.Follow[place] = slices.Clone(all)
	}
	return p
}

// copied is p with lists of its own.
func copied(p api.Posn) api.Posn {
	p.Classes, p.Rules, p.First, p.Last, p.Empty = slices.Clone(p.Classes), slices.Clone(p.Rules), slices.Clone(p.First), slices.Clone(p.Last), slices.Clone(p.Empty)
	p.Follow = slices.Clone(p.Follow)
	for i, l := range p.Follow {
		p.Follow[i] = slices.Clone(l)
	}
	return p
}

// checks: does Check answer want, and do Run and Rules with it?
func checks(t *testing.T, p api.Posn, want api.Errno) {
	t.Helper()
	if err := places.Check(p); err != want {
		t.Errorf("Check(%s) = %d, not %d", show(p), err, want)
	}
	for _, s := range []string{"", "a", strings.Repeat("a", 200)} {
		at, runErr := places.Run(p, s)
		done, rulesErr := places.Rules(p, s)
		if runErr != want || rulesErr != want || want != api.OK && (at != nil || done != nil) {
			t.Errorf("of %q behind %s: %v, %d; %v, %d; not %d", s, show(p), at, runErr, done, rulesErr, want)
		}
	}
}

// listsUpTo has all lists of up to n of some numbers.
func listsUpTo(n int, of ...int) [][]int {
	all := [][]int{nil}
	for from := 0; n > 0; n-- {
		upTo := len(all)
		for _, l := range all[from:upTo] {
			for _, number := range of {
				all = append(all, append(slices.Clone(l), number))
			}
		}
		from = upTo
	}
	return all
}

func TestP17CheckLetsPassWhatMakeMakes(t *testing.T) {
	for _, r := range treesUpTo(6, none(), empty(), of("a")) {
		p, _ := places.Make([]api.Rex{r})
		if err := places.Check(p); err != api.OK {
			t.Fatalf("Check(%s) = %d", show(p), err)
		}
	}
	rng := rand.New(rand.NewSource(2))
	for range 500 {
		if p, err := places.Make(wildRules(rng, 20, 30)); err == api.OK {
			checks(t, p, api.OK)
		}
	}
}

func TestP17HowLongTheListsAre(t *testing.T) {
	counts := map[api.Errno]int{}
	for n := range 256 {
		p := api.Posn{Empty: []bool{false}}
		p.Classes = make([]api.Class, n%4)
		p.Rules = make([]int, n/4%4)
		p.Follow = make([][]int, n/16%4)
		p.Last = make([]bool, n/64)
		want := plainCheck(p)
		counts[want]++
		checks(t, p, want)
	}
	if counts[api.OK] != 4 || counts[api.ErrArg] != 252 {
		t.Errorf("told: %v", counts)
	}
}

func TestP17HowManyRules(t *testing.T) {
	for n := range 24 {
		want := api.OK
		if n == 0 || n > 20 {
			want = api.ErrArg
		}
		p := line(2)
		p.Empty = make([]bool, n)
		checks(t, p, want)
		p = api.Posn{Empty: make([]bool, n)}
		checks(t, p, want)
		p = line(201)
		p.Empty = make([]bool, n)
		if want == api.OK {
			want = api.ErrLarge
		}
		checks(t, p, want)
	}
	checks(t, api.Posn{}, api.ErrArg)
	checks(t, api.Posn{Empty: make([]bool, 1<<16)}, api.ErrArg)
}

func TestP17RulesThatAreNone(t *testing.T) {
	for _, count := range []int{1, 2, 3, 20} {
		for _, rule := range []int{math.MinInt, -256, -2, -1, 0, 1, 2, 3, 18, 19, 20, 21, 256, 1 << 32, math.MaxInt} {
			for place := range 4 {
				p := line(4)
				p.Empty = make([]bool, count)
				p.Rules[place] = rule
				checks(t, p, plainCheck(p))
				if (plainCheck(p) == api.OK) != (rule >= 0 && rule < count) {
					t.Errorf("%d of %d", rule, count)
				}
			}
		}
	}
}

// All lists of up to four numbers, from one too small to one too great, as First and as each Follow.
func TestP17ListsOfPlaces(t *testing.T) {
	for _, l := range listsUpTo(4, -1, 0, 1, 2, 3) {
		right := true
		for i, place := range l {
			right = right && place >= 0 && place < 3 && !slices.Contains(l[:i], place)
		}
		right = right && slices.IsSorted(l)
		want := api.ErrArg
		if right {
			want = api.OK
		}
		p := line(3)
		p.First = l
		checks(t, p, want)
		for place := range 3 {
			p := line(3)
			p.Follow[place] = l
			checks(t, p, want)
		}
	}
	for _, odd := range []int{math.MinInt, math.MinInt32, -1, 200, 255, 256, 1 << 32, math.MaxInt} {
		for at := range 201 {
			p := crowd(200)
			p.First = slices.Insert(p.First, at, odd)
			checks(t, p, api.ErrArg)
		}
		p := crowd(200)
		p.Follow[199] = append(p.Follow[199], odd)
		checks(t, p, api.ErrArg)
	}
	p := api.Posn{First: []int{0}, Empty: []bool{true}} // of no places none is one
	checks(t, p, api.ErrArg)
}

// faults has what makes a Posn of some places a wrong one.
func faults() []func(p *api.Posn) {
	return []func(p *api.Posn){
		func(p *api.Posn) { p.Rules = p.Rules[1:] },
		func(p *api.Posn) { p.Rules = append(p.Rules, 0) },
		func(p *api.Posn) { p.Follow = p.Follow[1:] },
		func(p *api.Posn) { p.Follow = append(p.Follow, nil) },
		func(p *api.Posn) { p.Last = p.Last[1:] },
		func(p *api.Posn) { p.Last = append(p.Last, false) },
		func(p *api.Posn) { p.Classes = append(p.Classes, api.Class{}) },
		func(p *api.Posn) { p.Empty = nil },
		func(p *api.Posn) { p.Empty = make([]bool, 21) },
		func(p *api.Posn) { p.Rules[len(p.Rules)-1] = len(p.Empty) },
		func(p *api.Posn) { p.Rules[0] = -1 },
		func(p *api.Posn) { p.First = []int{-1} },
		func(p *api.Posn) { p.First = []int{0, len(p.Classes)} },
		func(p *api.Posn) { p.First = []int{0, 0} },
		func(p *api.Posn) { p.First = []int{1, 0} },
		func(p *api.Posn) { p.Follow[0] = []int{-1} },
		func(p *api.Posn) { p.Follow[len(p.Follow)-1] = []int{0, len(p.Classes)} },
		func(p *api.Posn) { p.Follow[1] = []int{0, 0} },
		func(p *api.Posn) { p.Follow[1] = []int{1, 0} },
	}
}

func TestP17TooManyPlacesIsLookedAtLast(t *testing.T) {
	for _, n := range []int{0, 1, 2, 199, 200} {
		checks(t, line(n), api.OK)
	}
	checks(t, crowd(200), api.OK)
	for _, n := range []int{201, 202, 256, 1000, 1 << 15} {
		checks(t, line(n), api.ErrLarge)
	}
	checks(t, crowd(201), api.ErrLarge)
	for _, n := range []int{2, 3, 200, 201, 300} {
		for i, fault := range faults() {
			p := line(n)
			fault(&p)
			if plainCheck(p) != api.ErrArg {
				t.Fatalf("fault %d is none", i)
			}
			checks(t, p, api.ErrArg)
		}
	}
}

func TestP17CheckOfSampled(t *testing.T) {
	rng := rand.New(rand.NewSource(3))
	counts := map[api.Errno]int{}
	for range 4000 {
		p := wildPosn(rng)
		want := plainCheck(p)
		counts[want]++
		checks(t, p, want)
	}
	if counts[api.OK] < 100 || counts[api.ErrArg] < 100 || counts[api.ErrLarge] < 100 {
		t.Errorf("told: %v", counts)
	}
}

// wildPosn is odd, and often wrong in one thing or two.
func wildPosn(rng *rand.Rand) api.Posn {
	p := wildRight(rng, []int{1, 2, 3, 7, 64, 200, 201, 230}[rng.Intn(8)])
	l := faults()
	for range rng.Intn(3) {
		if fault := l[rng.Intn(len(l))]; plainCheck(p) != api.ErrArg && len(p.Classes) > 1 {
			fault(&p)
		}
	}
	return p
}

// wildRight has so many places, and is otherwise right, though seldom such that Make would make it.
func wildRight(rng *rand.Rand, n int) api.Posn {
	p := api.Posn{Empty: make([]bool, 1+rng.Intn(20))}
	for rule := range p.Empty {
		p.Empty[rule] = rng.Intn(2) == 0
	}
	some := func() []int {
		var l []int
		for place := range n {
			if rng.Intn(max(2, n/8)) == 0 {
				l = append(l, place)
			}
		}
		return l
	}
	p.First = some()
	for range n {
		p.Classes = append(p.Classes, bytesOf([]string{"", "a", "b", "ab", "\x00\x3f\x40", "\x7f\x80\xffa"}[rng.Intn(6)]))
		p.Rules = append(p.Rules, rng.Intn(len(p.Empty)))
		p.Follow = append(p.Follow, some())
		p.Last = append(p.Last, rng.Intn(2) == 0)
	}
	return p
}

// runs: does Run answer at, and Rules done?
func runs(t *testing.T, p api.Posn, s string, at, done []int) {
	t.Helper()
	if got, err := places.Run(p, s); err != api.OK || !slices.Equal(got, at) {
		t.Errorf("Run(%s, %q) = %v, %d, not %v", show(p), s, got, err, at)
	}
	if got, err := places.Rules(p, s); err != api.OK || !slices.Equal(got, done) {
		t.Errorf("Rules(%s, %q) = %v, %d, not %v", show(p), s, got, err, done)
	}
}

func TestP17Examples(t *testing.T) {
	p := made(t, "(a|b)*a", "a")
	runs(t, p, "", nil, nil)
	runs(t, p, "a", []int{0, 2, 3}, []int{0, 1})
	runs(t, p, "b", []int{1}, nil)
	runs(t, p, "ba", []int{0, 2}, []int{0})
	runs(t, p, "ab", []int{1}, nil)
	runs(t, p, "aa", []int{0, 2}, []int{0})
	runs(t, p, "c", nil, nil)
	runs(t, p, "aca", nil, nil)
	p = made(t, "a*", "b", "()", "[^]", "a|aa")
	runs(t, p, "", nil, []int{0, 2})
	runs(t, p, "a", []int{0, 2, 3, 4}, []int{0, 3, 4})
	runs(t, p, "b", []int{1, 2}, []int{1, 3})
	runs(t, p, "\xff", []int{2}, []int{3})
	runs(t, p, "aa", []int{0, 5}, []int{0, 4})
	runs(t, p, "aaa", []int{0}, []int{0})
}

// What a Posn says that was made by hand is taken as it is.
func TestP17WhatMakeWouldNotMake(t *testing.T) {
	p := api.Posn{
		Classes: classes("a", "a", "", "a"), Rules: []int{2, 0, 1, 0}, First: []int{0, 1, 2},
		Follow: [][]int{{3}, {0, 2, 3}, {0, 1, 2, 3}, nil}, Last: []bool{true, true, true, true}, Empty: []bool{false, true, true},
	}
	runs(t, p, "", nil, []int{1, 2})
	runs(t, p, "a", []int{0, 1}, []int{0, 2}) // the rule of place 1 is less than that of place 0
	runs(t, p, "aa", []int{0, 3}, []int{0, 2})
	runs(t, p, "aaa", []int{3}, []int{0})
	runs(t, p, "aaaa", nil, nil)
	runs(t, p, "b", nil, nil)
	runs(t, api.Posn{Empty: []bool{true, false, true}}, "", nil, []int{0, 2})
	runs(t, api.Posn{Empty: []bool{true, false, true}}, "a", nil, nil)
}

func TestP17BytesAtTheEdges(t *testing.T) {
	for b := range 256 {
		p := line(1)
		p.Classes[0] = bytesOf(string([]byte{byte(b)}))
		for other := range 256 {
			var want []int
			if other == b {
				want = []int{0}
			}
			runs(t, p, string([]byte{byte(other)}), want, want)
		}
	}
	p := made(t, `\xff\x00[^]\x80`)
	runs(t, p, "\xff\x00\xc3\x80", []int{3}, []int{0})
	runs(t, p, "\xff\x00\xc3\xa9", nil, nil)
}

// subsets has all lists of numbers below n that rise.
func subsets(n int) [][]int {
	var all [][]int
	for set := range 1 << n {
		var l []int
		for i := range n {
			if set>>i%2 == 1 {
				l = append(l, i)
			}
		}
		all = append(all, l)
	}
	return all
}

// marks has all lists of so many bools.
func marks(n int) [][]bool {
	var all [][]bool
	for _, set := range subsets(n) {
		l := make([]bool, n)
		for _, i := range set {
			l[i] = true
		}
		all = append(all, l)
	}
	return all
}

// All of two places and two rules, with the classes of two bytes.
func TestP17AllOfTwoPlaces(t *testing.T) {
	texts := textsUpTo(3, "ab")
	four := classes("", "a", "b", "ab")
	two := subsets(2)
	for i := range 4 * 4 * 4 * 4 * 4 {
		p := api.Posn{First: two[i%4], Follow: [][]int{two[i/4%4], two[i/16%4]}, Classes: []api.Class{four[i/64%4], four[i/256]}}
		p.Rules, p.Last, p.Empty = []int{0, 0}, []bool{false, false}, []bool{false, false}
		for _, s := range texts {
			at := plainRun(p, s)
			for _, last := range marks(2) {
				for j := range 16 {
					p.Last, p.Rules, p.Empty = last, []int{j % 2, j / 2 % 2}, []bool{j/4%2 == 1, j/8 == 1}
					runs(t, p, s, at, plainRules(p, s, at))
				}
			}
		}
	}
}

func TestP17SampledPosns(t *testing.T) {
	rng := rand.New(rand.NewSource(4))
	for range 3000 {
		p := wildRight(rng, 1+rng.Intn(9))
		for range 4 {
			s := wildText(rng, rng.Intn(6))
			at := plainRun(p, s)
			runs(t, p, s, at, plainRules(p, s, at))
		}
	}
}

// wildText has n bytes, most of them often in classes.
func wildText(rng *rand.Rand, n int) string {
	l := make([]byte, n)
	for i := range l {
		l[i] = "aaabbc\x00\x3f\x40\x7f\x80\xff"[rng.Intn(12)]
	}
	return string(l)
}

// Behind a text and one byte more come those that follow the places behind the text, however long it is.
func TestP17OneByteMore(t *testing.T) {
	rng := rand.New(rand.NewSource(5))
	longest := 0
	for range 12 {
		p := wildRight(rng, 20+rng.Intn(181))
		s := wildText(rng, 1)
		at, err := places.Run(p, s)
		for err == api.OK && len(at) > 0 && len(s) < 200 {
			more := s + "aab"[rng.Intn(3):][:1]
			var want []int
			for place, c := range p.Classes {
				from := func(before int) bool { return slices.Contains(p.Follow[before], place) }
				if has(c, more[len(s)]) && slices.ContainsFunc(at, from) {
					want = append(want, place)
				}
			}
			runs(t, p, more, want, plainRules(p, more, want))
			s, at = more, want
			longest = max(longest, len(s))
		}
	}
	if longest < 200 {
		t.Errorf("texts are no longer than %d", longest)
	}
}

// matching has the rules that match s.
func matching(t *testing.T, rules []api.Rex, s string) []int {
	t.Helper()
	var l []int
	for i, r := range rules {
		is, err := rex.Matches(r, s)
		if err != api.OK {
			t.Fatalf("Matches(%s, %q): %d", show(r), s, err)
		}
		if is {
			l = append(l, i)
		}
	}
	return l
}

// isDone: does Rules tell those that match s?
func isDone(t *testing.T, rules []api.Rex, p api.Posn, s string) {
	t.Helper()
	want := matching(t, rules, s)
	if got, err := places.Rules(p, s); err != api.OK || !slices.Equal(got, want) {
		t.Errorf("Rules of %s behind %q = %v, %d, not %v", show(rules), s, got, err, want)
	}
}

func TestP17RulesAreThoseThatMatch(t *testing.T) {
	texts := textsUpTo(4, "ab")
	leaves := []api.Rex{none(), empty(), of("a"), of("ab")}
	for _, r := range treesUpTo(5, leaves...) {
		l := []api.Rex{r}
		p, _ := places.Make(l)
		for _, s := range texts {
			isDone(t, l, p, s)
		}
	}
	small := treesUpTo(3, leaves...)
	for _, a := range small {
		for _, b := range small {
			l := []api.Rex{a, b}
			p, _ := places.Make(l)
			for _, s := range texts[:7] {
				isDone(t, l, p, s)
			}
		}
	}
}

// sampleOf is a text of r, if r has one where it is gone through at random.
func sampleOf(rng *rand.Rand, r api.Rex) string {
	switch r.Kind {
	case api.RByte:
		for {
			if b := byte(rng.Intn(256)); has(r.Class, b) {
				return string([]byte{b})
			}
		}
	case api.RCat:
		return sampleOf(rng, r.Kids[0]) + sampleOf(rng, r.Kids[1])
	case api.RAlt:
		return sampleOf(rng, r.Kids[rng.Intn(2)])
	case api.RStar:
		s := ""
		for range rng.Intn(3) {
			s += sampleOf(rng, r.Kids[0])
		}
		return s
	}
	return ""
}

func TestP17SampledRulesAreThoseThatMatch(t *testing.T) {
	rng := rand.New(rand.NewSource(6))
	found := 0
	for range 400 {
		l := wildRules(rng, 6, 40)
		p, err := places.Make(l)
		if err != api.OK {
			continue
		}
		for _, r := range l {
			s := sampleOf(rng, r)
			for _, s := range []string{s, s[len(s)/2:], s + "a", wildText(rng, 3)} {
				s = s[:min(len(s), 200)]
				isDone(t, l, p, s)
				found += len(matching(t, l, s))
			}
		}
	}
	if found < 1000 {
		t.Errorf("only %d texts match", found)
	}
}

// isLarge: do Run and Rules answer ErrLarge, and nothing else?
func isLarge(t *testing.T, p api.Posn, s string) {
	t.Helper()
	at, err := places.Run(p, s)
	done, other := places.Rules(p, s)
	if at != nil || done != nil || err != api.ErrLarge || other != api.ErrLarge {
		t.Errorf("of %d bytes: %v, %d; %v, %d", len(s), at, err, done, other)
	}
}

func TestP17LongTexts(t *testing.T) {
	p := line(200)
	runs(t, p, strings.Repeat("a", 199), []int{198}, nil)
	runs(t, p, strings.Repeat("a", 200), []int{199}, []int{0})
	runs(t, p, "b"+strings.Repeat("a", 199), nil, nil)
	for _, n := range []int{201, 202, 1000, 1 << 20} {
		isLarge(t, p, strings.Repeat("a", n))
		isLarge(t, p, strings.Repeat("\xff", n))
		isLarge(t, api.Posn{Empty: []bool{true}}, strings.Repeat("a", n))
	}
	p = crowd(200)
	runs(t, p, strings.Repeat("az", 100), p.First, []int{0})
	long := strings.Repeat("a", 201)
	isLarge(t, line(201), long)
	for _, fault := range faults() { // a Posn that is wrong is told ahead of a text that is too long
		p := line(3)
		fault(&p)
		_, err := places.Run(p, long)
		_, other := places.Rules(p, long)
		if err != api.ErrArg || other != api.ErrArg {
			t.Errorf("of %s: %d, %d", show(p), err, other)
		}
	}
}
