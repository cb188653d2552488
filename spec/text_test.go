package spec_test

import (
	"math/rand"
	"slices"
	"strings"
	"testing"

	"pushmill/api"
	"pushmill/spec"
)

func TestP51Write(t *testing.T) {
	for _, c := range []struct {
		s    api.Spec
		want string
	}{
		{api.Spec{}, ""},
		{sums(), "token num [0-9][0-9]*\ntoken plus \\+\nskip \\s\nrule e = num r\nrule r =\nrule r = plus num r\n"},
		{rows(), "token a a\nrule s = s a\nrule s = a\n"},
		{said("~: a?", "~: (a|b)", "token: []", "~: [^]"), "skip a|()\nskip [ab]\ntoken token []\nskip [^]\n"},
		{said("s =", "skip = s s", "s = skip"), "rule s =\nrule skip = s s\nrule s = skip\n"},
		{said("A12: \\n\\t\\s\\x00", "S12 = A12 A12"), "token aaaaaaaaaaaa \\n\\t\\s\\x00\nrule ssssssssssss = aaaaaaaaaaaa aaaaaaaaaaaa\n"},
		{said("a: a", "s = a a a a a a a a a a a"), "token a a\nrule s = a a a a a a a a a a a\n"},
	} {
		if strings.Contains(c.want, "a|()") { // said has no class of two ways
			c.s.Words[1].Rex = must("[ab]")
		}
		writes(t, c.s, c.want)
	}
	writes(t, many(60, 0), plainWrite(many(60, 0)))
	writes(t, many(0, 60), plainWrite(many(0, 60)))
	writes(t, many(30, 30), plainWrite(many(30, 30)))
}

// A text that is written may be longer than one that is read.
func TestP51WritesLongTexts(t *testing.T) {
	wide := api.Spec{Rules: []api.Rule{{Head: "s", Body: slices.Repeat([]string{"s"}, 2043)}}}
	text := "rule s =" + strings.Repeat(" s", 2043) + "\n"
	writes(t, wide, text) // 4095 bytes
	wide.Rules[0].Head, wide.Rules[0].Body[2042] = "s", "t"
	wide.Rules = append(wide.Rules, api.Rule{Head: "t"})
	writes(t, wide, strings.Replace(text, "s\n", "t\n", 1)+"rule t =\n")
	readFails(t, strings.Replace(text, "s\n", "t\n", 1)+"rule t =\n", 0, api.ErrLarge)
	wide = api.Spec{Rules: []api.Rule{{Head: "s", Body: slices.Repeat([]string{"s"}, 1<<18)}}}
	writes(t, wide, "rule s ="+strings.Repeat(" s", 1<<18)+"\n")
}

func TestP51WriteRefuses(t *testing.T) {
	for _, c := range []struct {
		s    api.Spec
		want api.Errno
	}{
		{said("a: !"), api.ErrArg},
		{said("a: a", "a: a"), api.ErrName},
		{said("A: a"), api.ErrArg},
		{said("a: a", "a ="), api.ErrName},
		{said("s = b"), api.ErrName},
		{many(31, 30), api.ErrLarge},
	} {
		refused(t, c.s, c.want)
	}
}

func TestP51Read(t *testing.T) {
	reads(t, "", api.Spec{})
	reads(t, "skip a\n", said("~: a"))
	reads(t, "token a a\n", said("a: a"))
	reads(t, "rule s =\n", said("s ="))
	reads(t, "rule s = s\n", said("s = s"))
	reads(t, "rule s = t\nrule t = s s\n", said("s = t", "t = s s"))
	reads(t, "token num [0-9]+\ntoken plus \\+\nskip \\s\nrule e = num r\nrule r =\nrule r = plus num r\n", sums())
	reads(t, "token token token\ntoken skip skip\nskip rule\nrule rule = token skip rule\n", said("token: token", "skip: skip", "~: rule", "rule = token skip rule"))
	reads(t, "token skip a\nskip skip\nrule s = skip\n", said("skip: a", "~: skip", "s = skip"))
	reads(t, "token aaaaaaaaaaaa a\nrule ssssssssssss = aaaaaaaaaaaa\n", said("A12: a", "S12 = A12"))
	// A sign of an equation may stand in an expression, and be one.
	reads(t, "token eq =\nskip a=b\nrule s = eq\n", said("eq: =", "~: a=b", "s = eq"))
	// Expressions may stand otherwise than they are printed.
	for _, source := range sources() {
		reads(t, "token a "+source+"\nskip "+source+"\n", said("a: "+source, "~: "+source))
		writes(t, said("a: "+source, "~: "+source), plainWrite(said("a: "+source, "~: "+source)))
	}
	reads(t, "skip ((a))\n", said("~: a"))
	reads(t, "skip \\x61\n", said("~: a"))
}

func TestP51NoneSuch(t *testing.T) {
	for _, line := range []string{
		"", " ", "a", "=", "token", "token ", "token a", "token a ", "token  a", "token  a a", "token a  a", " token a a", "token a a ", "token\ta a",
		"Token a a", "tokens a a", "token A a", "token a1 a", "token aaaaaaaaaaaaa a", "token - a", "token a a b", "token a a\r", "token \xff a", "token a\x00 a", "token é a",
		"skip", "skip ", "skip  ", "skip  a", "skip a ", "skip a b", " skip a", "skips a", "Skip a", "skip\ta", "skip a\r", "skipa", "tokena a",
		"rule", "rule ", "rule =", "rule  =", "rule s", "rule s ", "rule s=", "rule s= s", "rule s  =", "rule s = ", "rule s =  s", "rule s = s ", "rule s = s  s", "rule s =s", "rule s == s", "rule s = =", "rule s = s =", "rule s = s = s",
		" rule s =", "rules s =", "Rule s =", "rule S =", "rule s1 =", "rule sssssssssssss =", "rule s = S", "rule s = s1", "rule s = sssssssssssss", "rule s = s\r", "rule s =\t", "rule s =\ts", "rule\ts =", "rule - =", "rule s = -", "rule s t =", "rule s = \xff",
		"skip (", "skip *", "skip )", "skip [b-a]", "skip \x00", "skip \x7f", "skip \x80", "token a (", "token a +", "token a ]",
	} {
		readFails(t, line+"\n", 1, api.ErrSyntax)
		readFails(t, line+"\nskip a\n", 1, api.ErrSyntax)
		readFails(t, "token a a\n"+line+"\n", 2, api.ErrSyntax)
		readFails(t, "token a a\nskip b\nrule s =\nrule s = a\n"+line+"\n", 5, api.ErrSyntax)
		readFails(t, "token a a\nrule s = s\n"+line+"\n(\n", 3, api.ErrSyntax)
		if line != "" {
			readFails(t, line, 1, api.ErrSyntax)
			readFails(t, "skip a\n"+line, 2, api.ErrSyntax)
		}
	}
}

func TestP51NoLineEnd(t *testing.T) {
	for _, line := range []string{"token a a", "skip a", "rule s =", "rule s = s", "skip (", "token a " + strings.Repeat("(", 31), "\r"} {
		readFails(t, line, 1, api.ErrSyntax)
		readFails(t, "skip a\n"+line, 2, api.ErrSyntax)
		readFails(t, "skip a\n\n"+line, 2, api.ErrSyntax)
	}
}

// A word behind a rule is no such line, be its expression right or wrong.
func TestP51WordBehindRule(t *testing.T) {
	readFails(t, "rule s =\ntoken a a\n", 2, api.ErrSyntax)
	readFails(t, "rule s =\nskip a\n", 2, api.ErrSyntax)
	readFails(t, "rule s =\nrule s = s\nskip a\n", 3, api.ErrSyntax)
	readFails(t, "token a a\nrule s =\ntoken b a\nrule s =\n", 3, api.ErrSyntax)
	readFails(t, "rule s =\nskip "+strings.Repeat("(", 31)+"\n", 2, api.ErrSyntax)
	readFails(t, "rule s =\nskip "+strings.Repeat("a", 301)+"\n", 2, api.ErrSyntax)
	readFails(t, "rule a =\ntoken a a\n", 2, api.ErrSyntax) // not the name, either
}

// The errors of expressions, each at its line; the line that comes first counts.
func TestP51Expressions(t *testing.T) {
	deep, long, tall := strings.Repeat("(", 31), strings.Repeat("a", 301), strings.Repeat("a", 26)+"|"+strings.Repeat("a", 26)
	for _, c := range []struct {
		source string
		want   api.Errno
	}{
		{deep, api.ErrDeep}, {long, api.ErrLarge}, {tall, api.ErrLarge}, {strings.Repeat("*", 301), api.ErrLarge}, {"a" + strings.Repeat("*", 30), api.ErrDeep},
		{strings.Repeat("a", 29) + "|()|()", api.ErrDeep}, {"(", api.ErrSyntax}, {"a" + deep, api.ErrDeep}, {"a)" + deep, api.ErrSyntax}, {"*", api.ErrSyntax},
	} {
		readFails(t, "skip "+c.source+"\n", 1, c.want)
		readFails(t, "token a "+c.source+"\n", 1, c.want)
		readFails(t, "skip a\nskip b\nskip "+c.source+"\nrule s =\n", 3, c.want)
		readFails(t, "skip a\nskip "+c.source+"\nnone\n", 2, c.want)
		readFails(t, "skip a\nskip "+c.source+"\nskip "+deep+"\n", 2, c.want)
		readFails(t, "none\nskip "+c.source+"\n", 1, api.ErrSyntax)
		readFails(t, "token A "+c.source+"\n", 1, api.ErrSyntax)
		readFails(t, "token a "+c.source, 1, api.ErrSyntax)
		readFails(t, "token a a\ntoken a a\nskip "+c.source+"\n", 3, c.want) // ahead of what Check says
		readFails(t, "rule s =\nskip "+c.source+"\n", 2, api.ErrSyntax)
	}
	reads(t, "skip "+strings.Repeat("a", 29)+"\n", said("~: "+strings.Repeat("a", 29)))
	reads(t, "skip "+strings.Repeat("(", 30)+"a"+strings.Repeat(")", 30)+"\n", said("~: a"))
}

// When all has been read Check's error comes, at line 0.
func TestP51CheckIsLast(t *testing.T) {
	readFails(t, "token a a\ntoken a b\n", 0, api.ErrName)
	readFails(t, "token a a\nrule a =\n", 0, api.ErrName)
	readFails(t, "rule s = t\n", 0, api.ErrName)
	readFails(t, "token a a\ntoken a b\nrule\n", 3, api.ErrSyntax)
	readFails(t, strings.Repeat("skip a\n", 61), 0, api.ErrLarge)
	readFails(t, strings.Repeat("rule s =\n", 61), 0, api.ErrLarge)
	readFails(t, strings.Repeat("token a a\n", 61), 0, api.ErrLarge)
	readFails(t, strings.Repeat("skip a\n", 31)+strings.Repeat("rule s =\n", 30), 0, api.ErrLarge)
	readFails(t, strings.Repeat("skip a\n", 61)+"skip (\n", 62, api.ErrSyntax)
	readFails(t, strings.Repeat("rule s =\n", 61)+"skip a\n", 62, api.ErrSyntax)
	var many []string
	for range 60 {
		many = append(many, "~: a")
	}
	reads(t, strings.Repeat("skip a\n", 60), said(many...))
}

func TestP51Length(t *testing.T) {
	body := "rule s =" + strings.Repeat(" s", 2043)
	if len(body) != 4094 {
		t.Fatal(len(body))
	}
	s := api.Spec{Rules: []api.Rule{{Head: "s", Body: slices.Repeat([]string{"s"}, 2043)}}}
	reads(t, body+"\n", s)
	readFails(t, body+"\n\n", 2, api.ErrSyntax)
	readFails(t, body+" s\n", 0, api.ErrLarge)
	for _, n := range []int{4095, 4096, 4097, 4098, 5000, 1 << 16} {
		for _, b := range []string{"\n", "a", " ", "\xff"} {
			readsPlainly(t, strings.Repeat(b, n))
		}
		rest := n - len("rule s =\nrule s =\n")
		full := "rule s =" + strings.Repeat(" s", rest/2) + "\nrule s =\n"
		if rest%2 == 1 {
			full = "rule st =" + strings.Repeat(" s", rest/2) + "\nrule s =\n"
		}
		if len(full) != n {
			t.Fatal(len(full))
		}
		want := api.OK
		if n > 4096 {
			want = api.ErrLarge
		}
		if err := readsPlainly(t, full); err != want {
			t.Errorf("of %d bytes: %d, not %d", n, err, want)
		}
	}
}

// allOf hands out all texts of up to so many of these pieces.
func allOf(most int, pieces []string, each func(text string)) {
	var add func(text string, left int)
	add = func(text string, left int) {
		each(text)
		if left == 0 {
			return
		}
		for _, piece := range pieces {
			add(text+piece, left-1)
		}
	}
	add("", most)
}

func TestP51AllSmallTexts(t *testing.T) {
	counts := map[api.Errno]int{}
	try := func(text string) { counts[readsPlainly(t, text)]++ }
	allOf(6, []string{"token ", "skip ", "rule s", " =", " s", "a", " ", "\n"}, try)
	for _, ahead := range []string{"rule s", "token a ", "skip ", "skip (\n", "token s a\n", "rule s =\n"} {
		allOf(5, []string{"token ", "skip ", "rule s", " =", " s", "a", " ", "\n", "(", "="}, func(text string) { try(ahead + text) })
	}
	allOf(7, []string{"skip a\n", "token a a\n", "rule s =\n", "rule s = s\n", "rule a =\n"}, try)
	for _, err := range []api.Errno{api.OK, api.ErrSyntax, api.ErrName} {
		if counts[err] < 150 {
			t.Errorf("told: %v", counts)
		}
	}
}

// Each byte of some texts is made every other one, is taken out, and each is put in.
func TestP51OneByte(t *testing.T) {
	counts := map[api.Errno]int{}
	for _, text := range []string{
		"token num [0-9]+\ntoken plus \\+\nskip \\s\nrule e = num r\nrule r =\nrule r = plus num r\n",
		"skip (a|b)*\ntoken aaaaaaaaaaaa []\nrule ssssssssssss = aaaaaaaaaaaa ssssssssssss\n",
		"token a a\nrule s = s a\nrule s = a\n",
	} {
		for at := range len(text) + 1 {
			for b := range 256 {
				counts[readsPlainly(t, text[:at]+string([]byte{byte(b)})+text[at:])]++
				if at < len(text) {
					counts[readsPlainly(t, text[:at]+string([]byte{byte(b)})+text[at+1:])]++
				}
			}
			counts[readsPlainly(t, text[:at])]++
			counts[readsPlainly(t, text[at:])]++
			if at < len(text) {
				counts[readsPlainly(t, text[:at]+text[at+1:])]++
			}
		}
	}
	for _, err := range []api.Errno{api.OK, api.ErrSyntax, api.ErrName} {
		if counts[err] < 500 {
			t.Errorf("told: %v", counts)
		}
	}
}

// mixed is a text that was written, with some pieces of it changed.
func mixed(rng *rand.Rand, text string) string {
	lines := strings.SplitAfter(text, "\n")
	others := []string{"token ", "skip ", "rule ", " =", " ", "\n", "a", "A", "(", "*", "token a (((\n", "skip \\x0\n", "rule s = s\n", strings.Repeat("(", 31), strings.Repeat("a", 31), strings.Repeat("a", 301), "\x00"}
	for range 1 + rng.Intn(3) {
		i := rng.Intn(len(lines))
		at := rng.Intn(len(lines[i]) + 1)
		switch rng.Intn(5) {
		case 0:
			j := rng.Intn(len(lines))
			lines[i], lines[j] = lines[j], lines[i]
		case 1:
			lines[i] = lines[i][:at]
		case 2:
			lines[i] = lines[i][at:]
		case 3:
			lines[i] = lines[i][:at] + pick(rng, others...) + lines[i][at:]
		case 4:
			lines[i] = strings.Replace(lines[i], pick(rng, others...), pick(rng, others...), 1)
		}
	}
	return strings.Join(lines, "")
}

func TestP51Sampled(t *testing.T) {
	rng := rand.New(rand.NewSource(2))
	counts, long := map[api.Errno]int{}, 0
	for range 20000 {
		s := wildOne(rng)
		text := plainWrite(s)
		writes(t, s, text)
		if got, at, err := spec.Read(text); len(text) <= 4096 && (!sameSpec(got, s) || at != 0 || err != api.OK) {
			t.Fatalf("Read(%q): %s %d %d", text, show(got), at, err)
		}
		if len(text) > 1000 {
			long++
		}
		counts[readsPlainly(t, mixed(rng, text))]++
	}
	for _, err := range []api.Errno{api.OK, api.ErrSyntax, api.ErrDeep, api.ErrLarge, api.ErrName} {
		if counts[err] < 30 {
			t.Errorf("told: %v", counts)
		}
	}
	if long < 300 {
		t.Errorf("only %d are long", long)
	}
}
