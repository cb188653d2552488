package spec_test

import (
	"fmt"
	"math/rand"
	"slices"
	"strings"
	"testing"

	"pushmill/api"
	"pushmill/rex"
)

func TestP50Right(t *testing.T) {
	for _, s := range []api.Spec{
		{}, sums(), rows(),
		said("a: a"),
		said("~: a", "~: a", "~: b"),
		said("~: a", "b: a", "~: a", "c: a", "~: a"),
		said("s ="),
		said("s = s s s s s s s s s s s s"),
		said("a: a", "s = t a", "t = s", "s =", "t = a a", "s = a"), // a name may stand ahead of its rule
		said("A12: a", "B12 = A12 B12"),
		said("token: a", "skip: b", "rule = token skip"),
		said("a: a", "z: z", "az: a", "za: a", "b = a z az za b"),
		said("a: []", "b: ()", "s = a b"),
	} {
		checks(t, s, api.OK)
	}
}

// many has so many words and rules.
func many(words, rules int) api.Spec {
	var s api.Spec
	for i := range words {
		s.Words = append(s.Words, api.Word{Name: fmt.Sprintf("w%c%c", 'a'+i/26, 'a'+i%26), Rex: must("a")})
	}
	for i := range rules {
		s.Rules = append(s.Rules, api.Rule{Head: fmt.Sprintf("r%c%c", 'a'+i/26, 'a'+i%26)})
	}
	return s
}

func TestP50SixtyLines(t *testing.T) {
	for words := range 61 {
		checks(t, many(words, 60-words), api.OK)
		refused(t, many(words, 61-words), api.ErrLarge)
		refused(t, many(words+1, 60-words), api.ErrLarge)
	}
	refused(t, many(0, 61), api.ErrLarge)
	refused(t, many(61, 0), api.ErrLarge)
	refused(t, many(600, 600), api.ErrLarge)
	// It is told first, whatever else is wrong.
	s := many(30, 31)
	s.Words[0] = api.Word{Name: "-", Rex: api.Rex{}}
	s.Rules[0] = api.Rule{Head: "", Body: []string{""}}
	refused(t, s, api.ErrLarge)
	s.Rules = s.Rules[:30]
	refused(t, s, api.ErrArg)
}

// wrongNames are none, be it by one letter.
func wrongNames() []string {
	l := []string{"A", "Z", "aB", "a b", " a", "a ", "a\n", "\na", "a1", "1", "-", "_", "a-b", "`", "{", "@", "[", "\x00", "a\x00", "\x80", "\xff", "é", "日", "e\u0301", strings.Repeat("a", 13), strings.Repeat("a", 300)}
	for b := range 256 {
		if b < 'a' || b > 'z' {
			l = append(l, string([]byte{byte(b)}), string([]byte{'a', byte(b)}), string([]byte{byte(b), 'z'}))
		}
	}
	return l
}

func TestP50Names(t *testing.T) {
	for n := range 30 {
		want := api.OK
		if n < 1 || n > 12 {
			want = api.ErrArg
		}
		name := strings.Repeat("q", n)
		checks(t, api.Spec{Rules: []api.Rule{{Head: name}}}, want)
		if n > 0 { // of a word there may be none
			checks(t, api.Spec{Words: []api.Word{{Name: name, Rex: must("a")}}}, want)
		}
	}
	for b := 'a'; b <= 'z'; b++ {
		checks(t, api.Spec{Words: []api.Word{{Name: string(b), Rex: must("a")}}}, api.OK)
		checks(t, api.Spec{Rules: []api.Rule{{Head: string(b)}}}, api.OK)
	}
	for _, name := range wrongNames() {
		refused(t, api.Spec{Words: []api.Word{{Name: name, Rex: must("a")}}}, api.ErrArg)
		refused(t, api.Spec{Rules: []api.Rule{{Head: name}}}, api.ErrArg)
		refused(t, api.Spec{Rules: []api.Rule{{Head: "s", Body: []string{name}}}}, api.ErrName)
	}
}

func TestP50Refuses(t *testing.T) {
	for _, c := range []struct {
		s    api.Spec
		want api.Errno
	}{
		{said("a: a", "a: b"), api.ErrName},
		{said("a: a", "~: a", "b: c", "~: a", "a: b"), api.ErrName},
		{said("a: !"), api.ErrArg},
		{said("~: !"), api.ErrArg},
		{said("a: a", "a ="), api.ErrName},
		{said("a: a", "b: a", "s =", "b ="), api.ErrName},
		{said("s = a"), api.ErrName},
		{said("a: a", "s = a b"), api.ErrName},
		{said("a: a", "s = a", "s = s t"), api.ErrName},
		// Nobody has the empty name, be there words without one.
		{said("~: a", "s = ~"), api.ErrName},
		{said("s = ~"), api.ErrName},
		{said("~ ="), api.ErrArg},
		{said("~ = ~"), api.ErrArg},
		{said("~: a", "~ ="), api.ErrArg},
	} {
		refused(t, c.s, c.want)
	}
}

// Of several things that are wrong it tells the first.
func TestP50Order(t *testing.T) {
	deep := must("a")
	for range 31 {
		deep = api.Rex{Kind: api.RStar, Kids: []api.Rex{deep}}
	}
	deepWord := api.Spec{Words: []api.Word{{Name: "a", Rex: deep}}}
	deepTwice := api.Spec{Words: []api.Word{{Name: "a", Rex: must("a")}, {Name: "a", Rex: deep}}}
	deepName := api.Spec{Words: []api.Word{{Name: "A", Rex: deep}}}
	for _, c := range []struct {
		s    api.Spec
		want api.Errno
	}{
		{deepWord, api.ErrDeep},
		{deepTwice, api.ErrDeep},
		{deepName, api.ErrArg},
		{said("a: a", "a: !"), api.ErrArg},
		{said("a: a", "a: a", "b: !"), api.ErrName},
		{said("a: a", "b: !", "a: a"), api.ErrArg},
		{said("a: a", "a: a", "B: a"), api.ErrName},
		{said("a: a", "B: a", "a: a"), api.ErrArg},
		{said("a: a", "a: a", "S ="), api.ErrName},
		{said("a: a", "a =", "S ="), api.ErrName},
		{said("a: a", "S =", "a ="), api.ErrArg},
		{said("s = b", "S ="), api.ErrArg},
		{said("s = B", "~ ="), api.ErrArg},
		{said("s = S", "S = s"), api.ErrArg},
		{said("B: b", "B ="), api.ErrArg},
		{said("b: !", "B ="), api.ErrArg},
	} {
		refused(t, c.s, c.want)
	}
	for _, err := range []api.Errno{api.ErrLarge, api.ErrDeep} {
		s := said("a: a", "b: b", "a = c", "C =")
		s.Words[1].Rex = deep
		if err == api.ErrLarge {
			s.Words[1].Rex = must(strings.Repeat("a", 25))
			both := api.Rex{Kind: api.RCat, Kids: []api.Rex{s.Words[1].Rex, s.Words[1].Rex}}
			s.Words[1].Rex = api.Rex{Kind: api.RAlt, Kids: []api.Rex{both, must("a")}}
		}
		want := rex.Check(s.Words[1].Rex)
		refused(t, s, want)
		if want != err {
			t.Errorf("%d is told, not %d", want, err)
		}
	}
}

// smallWords hands out all lists of up to so many words of these names.
func smallWords(most int, of []string, each func(words []api.Word)) {
	var add func(words []api.Word)
	add = func(words []api.Word) {
		each(words)
		if len(words) == most {
			return
		}
		for _, name := range of {
			for _, r := range []api.Rex{must("a"), {Kind: 9}, {Kind: api.RStar, Kids: []api.Rex{{}}}} {
				add(append(slices.Clone(words), api.Word{Name: name, Rex: r}))
			}
		}
	}
	add(nil)
}

// smallRules hands out all lists of up to so many rules of these names, with Bodies of up to that many.
func smallRules(most, width int, of []string, each func(rules []api.Rule)) {
	bodies := [][]string{nil}
	for from := 0; width > 0; width-- {
		upTo := len(bodies)
		for _, body := range bodies[from:upTo] {
			for _, name := range of {
				bodies = append(bodies, append(slices.Clone(body), name))
			}
		}
		from = upTo
	}
	var add func(rules []api.Rule)
	add = func(rules []api.Rule) {
		each(rules)
		if len(rules) == most {
			return
		}
		for _, head := range of {
			for _, body := range bodies {
				add(append(slices.Clone(rules), api.Rule{Head: head, Body: body}))
			}
		}
	}
	add(nil)
}

func TestP50AllSmall(t *testing.T) {
	of := []string{"", "a", "b", "B"}
	counts := map[api.Errno]int{}
	for _, size := range []struct{ words, rules, width int }{{2, 2, 1}, {1, 1, 3}, {3, 1, 0}, {0, 2, 2}, {1, 3, 0}} {
		smallWords(size.words, of, func(words []api.Word) {
			smallRules(size.rules, size.width, of, func(rules []api.Rule) {
				s := api.Spec{Words: words, Rules: rules}
				want := plainCheck(s)
				checks(t, s, want)
				counts[want]++
			})
		})
	}
	for _, err := range []api.Errno{api.OK, api.ErrArg, api.ErrName} {
		if counts[err] < 400 {
			t.Errorf("told: %v", counts)
		}
	}
}

// spoilt is s with some things made wrong, or other ones.
func spoilt(rng *rand.Rand, s api.Spec) api.Spec {
	s = api.Spec{Words: slices.Clone(s.Words), Rules: slices.Clone(s.Rules)}
	others := append(wrongNames(), "", "a", "zz")
	for _, w := range s.Words {
		others = append(others, w.Name, w.Name, w.Name)
	}
	for _, r := range s.Rules {
		others = append(others, r.Head, r.Head, r.Head)
	}
	for range rng.Intn(4) {
		if len(s.Words) > 0 && rng.Intn(2) == 0 {
			w := &s.Words[rng.Intn(len(s.Words))]
			if rng.Intn(2) == 0 {
				w.Name = pick(rng, others...)
			} else {
				w.Rex = pick(rng, api.Rex{}, api.Rex{Kind: api.RByte}, must("a"), api.Rex{Kind: api.RCat, Kids: []api.Rex{must("a")}})
			}
		}
		if len(s.Rules) > 0 && rng.Intn(2) == 0 {
			r := &s.Rules[rng.Intn(len(s.Rules))]
			switch {
			case rng.Intn(2) == 0:
				r.Head = pick(rng, others...)
			default:
				r.Body = slices.Insert(slices.Clone(r.Body), rng.Intn(len(r.Body)+1), pick(rng, others...))
			}
		}
	}
	return s
}

func TestP50Sampled(t *testing.T) {
	rng := rand.New(rand.NewSource(1))
	counts := map[api.Errno]int{}
	for range 20000 {
		s := wildOne(rng)
		checks(t, s, api.OK)
		s = spoilt(rng, s)
		if rng.Intn(20) == 0 {
			s = api.Spec{Words: slices.Repeat(s.Words, rng.Intn(30)), Rules: slices.Repeat(s.Rules, rng.Intn(30))}
		}
		want := plainCheck(s)
		if want == api.OK {
			checks(t, s, want)
		} else {
			refused(t, s, want)
		}
		counts[want]++
	}
	for _, err := range []api.Errno{api.OK, api.ErrArg, api.ErrName, api.ErrLarge} {
		if counts[err] < 100 {
			t.Errorf("told: %v", counts)
		}
	}
}
