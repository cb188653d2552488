package rex_test

import (
	"fmt"
	"math/rand"
	"regexp"
	"strings"
	"testing"

	"pushmill/api"
	"pushmill/rex"
)

// texts has the texts of up to longest bytes of alphabet that r matches, by what the chapter says of each kind.
func texts(r api.Rex, longest int, alphabet string) map[string]bool {
	l := map[string]bool{}
	switch r.Kind {
	case api.REmpty:
		l[""] = true
	case api.RByte:
		in := read(r.Class)
		for _, b := range []byte(alphabet) {
			if in[b] {
				l[string([]byte{b})] = true
			}
		}
	case api.RCat:
		l = behind(texts(r.Kids[0], longest, alphabet), texts(r.Kids[1], longest, alphabet), longest)
	case api.RAlt:
		for _, kid := range r.Kids {
			for s := range texts(kid, longest, alphabet) {
				l[s] = true
			}
		}
	case api.RStar:
		kid := texts(r.Kids[0], longest, alphabet)
		l[""] = true
		for range longest { // each round has one more of the Kid's texts, of which the empty one is no help
			for s := range behind(l, kid, longest) {
				l[s] = true
			}
		}
	}
	return l
}

// behind has the texts of first with one of second behind them, up to that length.
func behind(first, second map[string]bool, longest int) map[string]bool {
	l := map[string]bool{}
	for s := range first {
		for u := range second {
			if len(s)+len(u) <= longest {
				l[s+u] = true
			}
		}
	}
	return l
}

// pattern is r for the library's regexp, a byte as the sign of that number.
func pattern(r api.Rex) string {
	switch r.Kind {
	case api.RNone:
		return `[^\x00-\x{10ffff}]`
	case api.REmpty:
		return `(?:)`
	case api.RByte:
		var b strings.Builder
		for n, in := range read(r.Class) {
			if in {
				fmt.Fprintf(&b, `\x%02x`, n)
			}
		}
		return "[" + b.String() + "]"
	case api.RCat:
		return pattern(r.Kids[0]) + pattern(r.Kids[1])
	case api.RAlt:
		return "(?:" + pattern(r.Kids[0]) + "|" + pattern(r.Kids[1]) + ")"
	}
	return "(?:" + pattern(r.Kids[0]) + ")*"
}

// wide is a text for the library's regexp.
func wide(s string) string {
	var l []rune
	for _, b := range []byte(s) {
		l = append(l, rune(b))
	}
	return string(l)
}

// sample is a text that r matches, or some text if none is found; a star is gone through up to that many times.
func sample(rng *rand.Rand, r api.Rex, times int) string {
	switch r.Kind {
	case api.RByte:
		in := read(r.Class)
		b := rng.Intn(256)
		for !in[b] {
			b = (b + 1) % 256
		}
		return string([]byte{byte(b)})
	case api.RCat:
		return sample(rng, r.Kids[0], times) + sample(rng, r.Kids[1], times)
	case api.RAlt:
		return sample(rng, r.Kids[rng.Intn(2)], times)
	case api.RStar:
		var s string
		for range rng.Intn(times + 1) {
			s += sample(rng, r.Kids[0], max(times-1, 1))
		}
		return s
	}
	return ""
}

// isText fails, if Matches answers otherwise.
func isText(t *testing.T, r api.Rex, s string, want bool) {
	t.Helper()
	if got, err := rex.Matches(r, s); got != want || err != api.OK {
		t.Fatalf("Matches(%s, %.60q) = %t, %d, not %t", show(r), s, got, err, want)
	}
}

func TestP13Known(t *testing.T) {
	a, b, c := of("a"), of("b"), of("c")
	long := strings.Repeat("a", 200)
	for _, k := range []struct {
		r        api.Rex
		yes, not []string
	}{
		{none(), nil, []string{"", "a", "\x00"}},
		{empty(), []string{""}, []string{"a", "\x00", "()"}},
		{a, []string{"a"}, []string{"", "b", "aa", "A"}},
		{of("\x00\xff"), []string{"\x00", "\xff"}, []string{"", "0", "\x00\xff", "\xfe", "ÿ"}},
		{but("\n"), []string{"a", "\x00", "\xff", "\x0b", "\x09"}, []string{"", "\n", "ab"}},
		{but(""), []string{"\n", "\x00", "\xff"}, []string{"", "\n\n"}},
		{cat(a, b), []string{"ab"}, []string{"", "a", "b", "ba", "abb", "aab"}},
		{cat(a, none()), nil, []string{"", "a"}},
		{cat(none(), a), nil, []string{"", "a"}},
		{cat(empty(), a), []string{"a"}, []string{"", "aa"}},
		{cat(a, empty()), []string{"a"}, []string{"", "aa"}},
		{alt(a, b), []string{"a", "b"}, []string{"", "ab", "c", "aa"}},
		{alt(a, none()), []string{"a"}, []string{""}},
		{alt(none(), empty()), []string{""}, []string{"a"}},
		{star(a), []string{"", "a", "aa", long}, []string{"b", "ab", long[1:] + "b", "b" + long[1:]}},
		{star(none()), []string{""}, []string{"a"}},
		{star(empty()), []string{""}, []string{"a"}},
		{star(star(a)), []string{"", "a", "aaa"}, []string{"ab"}},
		{star(alt(empty(), a)), []string{"", "aaa"}, []string{"aab"}},
		{star(cat(a, b)), []string{"", "ab", "abab"}, []string{"a", "aba", "ba"}},
		{star(cat(star(a), star(b))), []string{"", "abba", "b"}, []string{"abc"}},
		{cat(star(a), a), []string{"a", long}, []string{"", "ab"}},
		{cat(star(a), b), []string{"b", "aab", long[1:] + "b"}, []string{"", "aa", "ba"}},
		{cat(alt(a, cat(a, b)), star(alt(c, cats(b, c, of("d"))))), []string{"a", "ab", "abc", "abcd", "abcbcd"}, []string{"", "b", "abd"}},
	} {
		for _, s := range k.yes {
			isText(t, k.r, s, true)
		}
		for _, s := range k.not {
			isText(t, k.r, s, false)
		}
	}
}

func TestP13AllSmallTrees(t *testing.T) {
	const longest, alphabet = 4, "ab"
	all := textsUpTo(longest, alphabet)
	for _, trees := range treesUpTo(6, none(), empty(), of("a"), of("ab")) {
		for _, r := range trees {
			want := texts(r, longest, alphabet)
			for _, s := range all {
				isText(t, r, s, want[s])
			}
		}
	}
}

func TestP13TreesOfThreeBytes(t *testing.T) {
	const longest, alphabet = 3, "abc"
	all := textsUpTo(longest, alphabet)
	for _, trees := range treesUpTo(5, empty(), of("a"), of("b"), of("c"), of("bc")) {
		for _, r := range trees {
			want := texts(r, longest, alphabet)
			for _, s := range all {
				isText(t, r, s, want[s])
			}
		}
	}
}

func TestP13WildTrees(t *testing.T) {
	rng := rand.New(rand.NewSource(2))
	yes, not := 0, 0
	for range 1500 {
		r := wildTree(rng, 1+rng.Intn(100))
		if plainCheck(r) != api.OK {
			continue
		}
		library := regexp.MustCompile(`\A(?:` + pattern(r) + `)\z`)
		for times := range 6 {
			s := sample(rng, r, times)
			if times%2 == 1 && s != "" { // one byte is another one
				at := rng.Intn(len(s))
				s = s[:at] + string([]byte{byte(rng.Intn(256))}) + s[at+1:]
			}
			s = s[:min(len(s), 200)]
			want := library.MatchString(wide(s))
			isText(t, r, s, want)
			if want {
				yes++
			} else {
				not++
			}
		}
	}
	if yes < 500 || not < 500 {
		t.Errorf("%d texts match, %d don't", yes, not)
	}
}

func TestP13EachByteOfEachClass(t *testing.T) {
	rng := rand.New(rand.NewSource(3))
	for range 300 {
		r := wildLeaf(rng)
		in := read(r.Class)
		for b := range 256 {
			isText(t, r, string([]byte{byte(b)}), in[b])
			isText(t, star(r), string([]byte{byte(b), byte(b)}), in[b])
		}
	}
}

// Trees by which there are more ways through a text than could be gone, one by one.
func TestP13ManyWays(t *testing.T) {
	a, b := of("a"), of("b")
	maybe := alt(a, empty())
	long := strings.Repeat("a", 200)
	many := stars(5, alt(star(a), star(a)))
	for range 4 {
		many = star(alt(many, cat(star(a), star(a))))
	}
	for _, r := range []api.Rex{
		stars(28, a), stars(27, alt(a, a)), star(alt(a, a)), star(cat(star(a), star(a))), many,
		star(alt(star(a), star(cat(a, a)))), cats(star(a), star(a), star(a), star(a), star(a), star(a), star(a)), star(cats(maybe, maybe, maybe, maybe)), star(full(6, a)), stars(20, alt(empty(), maybe)),
	} {
		isText(t, r, long, true)
		isText(t, r, long[1:]+"b", false)
		isText(t, r, long[:100]+"b"+long[:99], false)
		isText(t, cat(r, b), long[1:]+"b", true)
		isText(t, cat(r, b), long, false)
	}
}

func TestP13LongTexts(t *testing.T) {
	all := star(but(""))
	for _, n := range []int{0, 1, 199, 200} {
		isText(t, all, strings.Repeat("\xff", n), true)
		isText(t, star(cat(but(""), but(""))), strings.Repeat("x", n), n%2 == 0)
	}
	for _, n := range []int{201, 202, 256, 457, 1 << 20} {
		for _, r := range []api.Rex{all, none(), empty(), of("x")} {
			if got, err := rex.Matches(r, strings.Repeat("x", n)); got || err != api.ErrLarge {
				t.Errorf("of %d bytes: %t, %d", n, got, err)
			}
		}
	}
}

func TestP13WrongTrees(t *testing.T) {
	wrong := append(wrongNodes(), withoutEnd()...)
	wrong = append(wrong, stars(30, star(of("a"))), full(7, star(of("a"))), cat(star(of("a")), api.Rex{}))
	for _, r := range wrong {
		for _, s := range []string{"", "a", strings.Repeat("a", 200), strings.Repeat("a", 201)} {
			if got, err := rex.Matches(r, s); got || err != plainCheck(r) || err == api.OK {
				t.Errorf("Matches(%s, %.20q) = %t, %d, not %d", show(r), s, got, err, plainCheck(r))
			}
		}
	}
}
