package cfg_test

import (
	"fmt"
	"math/rand"
	"slices"
	"strings"
	"testing"

	"pushmill/api"
	"pushmill/cfg"
)

func TestP30Examples(t *testing.T) {
	writes(t, brackets(), "2 1\n0:\n0: t0 n0 t1\n")
	writes(t, grammar(0, 1), "0 1\n")
	writes(t, grammar(30, 20), "30 20\n")
	writes(t, grammar(10, 11, prod(10, term(9), non(9), non(10), term(0))), "10 11\n10: t9 n9 n10 t0\n")
	writes(t, grammar(1, 3, prod(2), prod(0, non(2)), prod(2), prod(1, term(0), term(0))), "1 3\n2:\n0: n2\n2:\n1: t0 t0\n")
}

// Each number that there may be, wherever it may stand.
func TestP30AllNumbers(t *testing.T) {
	for terms := range 30 + 1 {
		for nons := 1; nons <= 20; nons++ {
			writes(t, grammar(terms, nons), fmt.Sprintf("%d %d\n", terms, nons))
		}
	}
	for n := range 30 {
		writes(t, grammar(30, 1, prod(0, term(n))), fmt.Sprintf("30 1\n0: t%d\n", n))
	}
	for n := range 20 {
		writes(t, grammar(0, 20, prod(n, non(n))), fmt.Sprintf("0 20\n%d: n%d\n", n, n))
	}
}

func TestP30TheLongestText(t *testing.T) {
	line := "19:" + strings.Repeat(" t29 n19", 4) + "\n"
	text := "30 20\n" + strings.Repeat(line, 40)
	writes(t, greatest(), text)
	readFails(t, text+line, 0, api.ErrLarge)
	readFails(t, text+"0:\n", 0, api.ErrLarge)
	readFails(t, text+"0", 42, api.ErrSyntax)
	readFails(t, text[:len(text)-1], 41, api.ErrSyntax)
}

func TestP30WriteRefuses(t *testing.T) {
	refused(t, api.Grammar{}, api.ErrArg)
	refused(t, grammar(0, 1, prod(0, api.Sym{Kind: 3})), api.ErrArg)
	refused(t, grammar(0, 1, prod(0, term(0))), api.ErrArg)
	refused(t, grammar(0, 1, prod(0, slices.Repeat([]api.Sym{non(0)}, 9)...)), api.ErrLarge)
	refused(t, grammar(0, 1, make([]api.Prod, 41)...), api.ErrLarge)
}

func TestP30AllSmallGrammars(t *testing.T) {
	right := 0
	try := func(g api.Grammar) {
		err := plainCheck(g)
		if err == api.OK {
			writes(t, g, plainWrite(g))
			right++
		} else if s, e := cfg.Write(g); s != "" || e != err {
			t.Fatalf("Write(%s): %q %d, not %d", show(g), s, e, err)
		}
	}
	small(2, 1, try)
	small(1, 2, try)
	if right < 300 {
		t.Errorf("only %d are right", right)
	}
}

func TestP30SampledGrammars(t *testing.T) {
	rng := rand.New(rand.NewSource(5))
	for range 5000 {
		g := wildOne(rng)
		writes(t, g, plainWrite(g))
	}
}

func TestP30WrongLines(t *testing.T) {
	for _, line := range []string{
		"", " ", "1", "1 ", " 1", "1  1", "1 1 ", " 1 1", "1 1 1", "1\t1", "1,1", "1:1", "1: 1", "x 1", "1 x", "t1 n1",
		"01 1", "1 01", "00 1", "1 00", "-1 1", "1 -1", "+1 1", "1 +1", "1_0 1", "0x1 1", "1e1 1", "1. 1", "1 1\r", "\x001 1", "1 1\x00",
		"\u0661 1", "1 \u0661", "1\u00a01", "\xff 1", "1 1x", "1 1;", "0:", "0: t0",
	} {
		for _, behind := range []string{"\n", "\n0:\n", "\n\n", "", "\n0"} {
			readFails(t, line+behind, 1, api.ErrSyntax)
		}
	}
	for _, line := range []string{
		"", " ", "0", ":", " :", "0 :", " 0:", "0: ", "0:t0", "0:  t0", "0: t0 ", "0: t0  n0", "0: t0n0", "0: t0,n0", "0: t", "0: n", "0: t n0", "0: 0",
		"0: t 0", "0: T0", "0: N0", "0: x0", "0: tt0", "0: tn0", "0: t0:", "0::", "0: :", "0: t0: n0", "00:", "00: t0", "01:", "0: t00", "0: n00", "0: t01", "0: n01",
		"-0:", "-1:", "+0:", "0: t-0", "0: t+0", "0: n-1", "n0:", "t0:", "n0: t0", "x:", "0;", "0\t:", "0:\t", "0:\tt0", "0: t0\r", "0:\r", "\r", "\x000:", "0:\x00",
		"0: t\u0660", "\u0660:", "0:\u00a0t0", "0: t0\xff", "0: t0x", "0: t0 1", "0: t0.", "0: t0_0", "0: t0x0", "1 1", "0 0",
	} {
		for _, ahead := range []string{"1 1\n", "1 1\n0:\n0: t0\n", "1 1\n7:\n", "0 0\n"} {
			for _, behind := range []string{"\n", "\n0:\n", "\n\n", "\n0"} {
				readFails(t, ahead+line+behind, 1+strings.Count(ahead, "\n"), api.ErrSyntax)
			}
			if line != "" { // nothing at the end is no line
				readFails(t, ahead+line, 1+strings.Count(ahead, "\n"), api.ErrSyntax)
			}
		}
	}
}

// A text has no end but behind a byte 10, and none behind which nothing comes is a line.
func TestP30TheLastLine(t *testing.T) {
	readFails(t, "", 1, api.ErrSyntax)
	readFails(t, "\n", 1, api.ErrSyntax)
	text := "2 2\n0:\n1: t0 n0 t1\n0: n1\n"
	for n := range len(text) {
		if n > 0 && text[n-1] == '\n' {
			writes(t, must(t, text[:n]), text[:n])
		} else {
			readFails(t, text[:n], 1+strings.Count(text[:n], "\n"), api.ErrSyntax)
		}
	}
	readFails(t, text+"\n", 5, api.ErrSyntax)
	readFails(t, text+"\n"+text, 5, api.ErrSyntax)
	readFails(t, text+text, 5, api.ErrSyntax)
	readFails(t, "\n"+text, 1, api.ErrSyntax)
	readFails(t, strings.ReplaceAll(text, "\n", "\r\n"), 1, api.ErrSyntax)
	readFails(t, strings.ReplaceAll(text, "\n", "\r"), 1, api.ErrSyntax)
}

// must read a text that is right.
func must(t *testing.T, s string) api.Grammar {
	t.Helper()
	g, at, err := cfg.Read(s)
	if err != api.OK {
		t.Fatalf("Read(%q): %d %d", s, at, err)
	}
	return g
}

// At the first of several wrong lines, and at any wrong line ahead of what Check tells.
func TestP30WhichErrorIsFirst(t *testing.T) {
	for n := 1; n <= 60; n++ {
		right := "1 1\n" + strings.Repeat("0: t0\n", 59)
		lines := strings.SplitAfter(right, "\n")
		lines[n-1] = "?\n"
		readFails(t, strings.Join(lines, ""), n, api.ErrSyntax)
		lines[59] = "?\n"
		readFails(t, strings.Join(lines, ""), n, api.ErrSyntax)
	}
	for _, ahead := range []string{"99 1\n", "1 0\n", "1 99\n", "1 1\n9:\n", "1 1\n0: t9\n", "1 1\n0: n9\n", "1 1\n0:" + strings.Repeat(" t0", 9) + "\n"} {
		readFails(t, ahead+"0: ", 1+strings.Count(ahead, "\n"), api.ErrSyntax)
		readFails(t, ahead+"0:\n\n0:\n", 2+strings.Count(ahead, "\n"), api.ErrSyntax)
	}
}

// What no grammar may have is told of the whole, at no line.
func TestP30ReadChecks(t *testing.T) {
	for _, c := range []struct {
		s   string
		err api.Errno
	}{
		{"0 0\n", api.ErrArg},
		{"31 1\n", api.ErrArg},
		{"1 21\n", api.ErrArg},
		{"1 1\n1:\n", api.ErrArg},
		{"1 1\n0: t1\n", api.ErrArg},
		{"1 1\n0: n1\n", api.ErrArg},
		{"0 1\n0: t0\n", api.ErrArg},
		{"1 1\n0: t0 t0 t0 t0 t0 t0 t0 t0 t0\n", api.ErrLarge},
		{"1 1\n9: t9 t0 t0 t0 t0 t0 t0 t0 t0\n", api.ErrLarge},
		{"1 1\n9:\n0: t0 t0 t0 t0 t0 t0 t0 t0 t0\n", api.ErrArg},
		{"1 1\n" + strings.Repeat("0:\n", 41), api.ErrLarge},
		{"1 1\n9:\n" + strings.Repeat("0:\n", 40), api.ErrLarge},
		{"1 0\n" + strings.Repeat("0:\n", 41), api.ErrArg},
	} {
		readFails(t, c.s, 0, c.err)
	}
	writes(t, grammar(1, 1, make([]api.Prod, 40)...), "1 1\n"+strings.Repeat("0:\n", 40))
	writes(t, grammar(1, 1, prod(0, slices.Repeat([]api.Sym{term(0)}, 8)...)), "1 1\n0: t0 t0 t0 t0 t0 t0 t0 t0\n")
}

// A number of nine digits is one, though too great for any grammar; with ten digits it is none, whatever it would come to.
func TestP30HowManyDigits(t *testing.T) {
	for _, form := range []struct {
		text string
		line int
	}{{"# 1\n0:\n", 1}, {"1 #\n0:\n", 1}, {"1 1\n#:\n", 2}, {"1 1\n0:\n#: t0\n", 3}, {"1 1\n0: t#\n", 2}, {"1 1\n0: n# t0\n", 2}, {"1 1\n0:\n0: t0 t0 n#\n", 3}} {
		for _, digits := range []string{"123", "999", "65536", "99999999", "100000000", "268435456", "999999999"} {
			readFails(t, strings.Replace(form.text, "#", digits, 1), 0, api.ErrArg)
		}
		for _, digits := range []string{"1000000000", "4294967296", "4294967297", "9999999999", "18446744073709551616", "18446744073709551617", "0000000000", "0000000001", "000000000", "000000001", "00", "01", "", strings.Repeat("9", 1000), "1" + strings.Repeat("0", 1000)} {
			readFails(t, strings.Replace(form.text, "#", digits, 1), form.line, api.ErrSyntax)
		}
	}
}

// long is a text of n bytes in which each line is one, behind that first line.
func long(first string, n int) string {
	left := n - len(first)
	count := left/3 - 1 // of all lines but the last one, which makes up what is left over
	digits := left - 3*count - 2
	return first + strings.Repeat("0:\n", count) + "1000"[:digits] + ":\n"
}

func TestP30LongTexts(t *testing.T) {
	for n := 100; n <= 4096; n++ {
		text := long("99 1\n", n)
		readFails(t, text, 0, api.ErrArg)
		readFails(t, text[:n-1]+"?", strings.Count(text, "\n"), api.ErrSyntax)
		readFails(t, "?"+text[1:], 1, api.ErrSyntax)
	}
	for _, n := range []int{4097, 4098, 4099, 5000, 8192, 1 << 20} {
		text := long("99 1\n", n)
		readFails(t, text, 0, api.ErrLarge)
		readFails(t, text[:n-1]+"?", 0, api.ErrLarge)
		readFails(t, "?"+text[1:], 0, api.ErrLarge)
		readFails(t, strings.Repeat("\n", n), 0, api.ErrLarge)
	}
	readFails(t, "1 1\n0:"+strings.Repeat(" t0", 1363)+"\n", 0, api.ErrLarge) // 4096 bytes, of one production
	readFails(t, "0 1\n0:"+strings.Repeat(" t0", 1363)+"\n", 0, api.ErrLarge)
	readFails(t, "0 0\n0:"+strings.Repeat(" t0", 1363)+"\n", 0, api.ErrArg)
	readFails(t, "0 0\n0:"+strings.Repeat(" t0", 1363)+" ", 2, api.ErrSyntax)
	readFails(t, "0 0\n0:"+strings.Repeat(" t0", 1363)+" \n", 0, api.ErrLarge)
}

// allTexts hands out all texts of up to so many of the signs.
func allTexts(signs string, most int, each func(s string)) {
	var grow func(s string)
	grow = func(s string) {
		each(s)
		for i := range len(signs) * min(1, most-len(s)) {
			grow(s + signs[i:i+1])
		}
	}
	grow("")
}

func TestP30AllShortTexts(t *testing.T) {
	counts := map[api.Errno]int{}
	seen := 0
	try := func(ahead string, signs string, most int) {
		allTexts(signs, most, func(s string) {
			counts[readsPlainly(t, ahead+s)]++
			counts[readsPlainly(t, ahead+s+"\n")]++
			seen++
		})
	}
	try("", "01 :tn\n", 5)
	try("1 ", "01 :tn\n", 5)
	try("0 1\n", "01 :tn\n", 5)
	try("2 2\n0", "01 :tn\n", 5)
	try("2 2\n0:", "01 tn\n", 6)
	try("2 2\n1: n0", "01 tn\n", 6)
	if seen != 4*(7*(7*7*7*7*7-1)/6+1)+2*(6*(6*6*6*6*6*6-1)/5+1) {
		t.Errorf("%d texts are tried", seen)
	}
	if counts[api.OK] < 100 || counts[api.ErrArg] < 10 || counts[api.ErrSyntax] < 100000 {
		t.Errorf("told: %v", counts)
	}
}

// Each byte of some texts as each other one, gone, and with each one ahead of it.
func TestP30OneByteIsAnother(t *testing.T) {
	counts := map[api.Errno]int{}
	for _, s := range []string{"2 1\n0:\n0: t0 n0 t1\n", "0 1\n", "30 20\n19: t29 n19\n10: n1\n", "11 11\n10: n10\n1: t10 t9\n1:\n"} {
		for i := range len(s) + 1 {
			for b := range 256 {
				one := string([]byte{byte(b)})
				counts[readsPlainly(t, s[:i]+one+s[i:])]++
				if i < len(s) {
					counts[readsPlainly(t, s[:i]+one+s[i+1:])]++
				}
			}
			if i < len(s) {
				counts[readsPlainly(t, s[:i]+s[i+1:])]++
			}
		}
	}
	if counts[api.OK] < 100 || counts[api.ErrArg] < 100 || counts[api.ErrSyntax] < 10000 {
		t.Errorf("told: %v", counts)
	}
}

// patched is a text with some pieces laid into it, or taken out of it.
func patched(rng *rand.Rand, s string) string {
	pieces := []string{" ", "\n", ":", "0", "1", "9", "t", "n", " t0", " n0", "0:\n", "0: t1\n", " t0 t0 t0 t0 t0", "123456789", "00", "\r", "\x00", "\xff", "-", "+"}
	for range rng.Intn(4) {
		from := rng.Intn(len(s) + 1)
		to := from + rng.Intn(min(4, len(s)-from+1))
		s = s[:from] + pieces[rng.Intn(len(pieces))] + s[to:]
	}
	return s
}

func TestP30PatchedTexts(t *testing.T) {
	rng := rand.New(rand.NewSource(6))
	counts := map[api.Errno]int{}
	for range 50000 {
		g := wildOne(rng)
		if rng.Intn(4) > 0 {
			g = wild(rng, rng.Intn(13), 1+rng.Intn(12), rng.Intn(4), 8)
		}
		counts[readsPlainly(t, patched(rng, plainWrite(g)))]++
	}
	for _, err := range []api.Errno{api.OK, api.ErrArg, api.ErrLarge, api.ErrSyntax} {
		if counts[err] < 50 {
			t.Errorf("told: %v", counts)
		}
	}
}
