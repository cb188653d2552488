package rex_test

import (
	"fmt"
	"math/rand"
	"regexp"
	"strconv"
	"strings"
	"testing"

	"pushmill/api"
	"pushmill/rex"
)

// The chapter's forms are read here a second time, in two other ways: where a text is wrong is found by going from byte to byte,
// with what may come next; the tree of one that is right by cutting it in two at its last sign that binds least.

// A mood is what may come next.
type mood int

const (
	wantAtom   mood = iota // as at the beginning, or behind `|`
	opened                 // behind `(`: an ATOM, or `)`
	afterAtom              // all but a CHAR of a class may come
	classBegun             // behind `[`
	wantItem               // behind `[^`, or an ITEM
	afterChar              // a CHAR of a class that `-` may come behind
	wantSecond             // behind its `-`
	escape                 // behind a backslash
	digitOne               // behind `\x`
	digitTwo
)

// walker goes through a text.
type walker struct {
	now, outer mood // outer: in what a backslash came
	open       int
	others     bool // is it a class with `^`?
	in         set
	first      int // the first CHAR of the ITEM
	code       int // a CHAR, as far as it has been read
	charAt     int // where it begins
}

const signs = `()[]|*+?.^-\`

// plainWrong is the error of s, and where it is seen, but for what is told when all is read; going on byte by byte.
func plainWrong(s string) (int, api.Errno) {
	if len(s) > 300 {
		return 0, api.ErrLarge
	}
	var w walker
	for i := range len(s) {
		if at, err := w.step(s[i], i); err != api.OK {
			return at, err
		}
	}
	if w.now != afterAtom || w.open > 0 {
		return len(s), api.ErrSyntax
	}
	return 0, api.OK
}

func (w *walker) step(b byte, i int) (int, api.Errno) {
	switch w.now {
	case escape, digitOne, digitTwo:
		return w.inEscape(b, i)
	case classBegun, wantItem, afterChar, wantSecond:
		return w.inClass(b, i)
	}
	switch {
	case b == '(' && w.open == 30:
		return i, api.ErrDeep
	case b == '(':
		w.open++
		w.now = opened
	case b == ')' && w.open > 0 && w.now != wantAtom:
		w.open--
		w.now = afterAtom
	case b == '[':
		w.now, w.others, w.in = classBegun, false, set{}
	case b == '.':
		w.now = afterAtom
	case b == '|' && w.now == afterAtom:
		w.now = wantAtom
	case (b == '*' || b == '+' || b == '?') && w.now == afterAtom:
	case b == '\\':
		w.outer, w.now, w.charAt = wantAtom, escape, i
	case plainChar(b):
		w.now = afterAtom
	default:
		return i, api.ErrSyntax
	}
	return 0, api.OK
}

func plainChar(b byte) bool { return b >= 33 && b <= 126 && strings.IndexByte(signs, b) < 0 }

func (w *walker) inEscape(b byte, i int) (int, api.Errno) {
	blanks := map[byte]int{'n': 10, 't': 9, 's': 32}
	digit := strings.IndexByte("0123456789abcdef", b)
	blank, isBlank := blanks[b]
	switch {
	case w.now == escape && b == 'x':
		w.now = digitOne
		return 0, api.OK
	case w.now == escape && isBlank:
		w.code = blank
	case w.now == escape && strings.IndexByte(signs, b) >= 0:
		w.code = int(b)
	case w.now == digitOne && digit >= 0:
		w.now, w.code = digitTwo, digit
		return 0, api.OK
	case w.now == digitTwo && digit >= 0:
		w.code = 16*w.code + digit
	default:
		return i, api.ErrSyntax
	}
	if w.outer == wantAtom {
		w.now = afterAtom
		return 0, api.OK
	}
	w.now = w.outer
	return w.classChar()
}

func (w *walker) inClass(b byte, i int) (int, api.Errno) {
	switch {
	case b == ']' && w.now != wantSecond:
		if w.others && w.in == read(but("").Class) {
			return i, api.ErrSyntax
		}
		w.now = afterAtom
	case b == '^' && w.now == classBegun:
		w.others, w.now = true, wantItem
	case b == '-' && w.now == afterChar:
		w.now = wantSecond
	case b == '\\':
		w.outer, w.now, w.charAt = w.now, escape, i
	case plainChar(b):
		w.code, w.charAt = int(b), i
		return w.classChar()
	default:
		return i, api.ErrSyntax
	}
	return 0, api.OK
}

// classChar takes a CHAR of a class that has been read.
func (w *walker) classChar() (int, api.Errno) {
	if w.now != wantSecond {
		w.now, w.first = afterChar, w.code
		w.in[w.code] = true
		return 0, api.OK
	}
	if w.code < w.first {
		return w.charAt, api.ErrSyntax
	}
	for b := w.first; b <= w.code; b++ {
		w.in[b] = true
	}
	w.now = wantItem
	return 0, api.OK
}

var (
	pieces = regexp.MustCompile(`\[(?:\\x..|\\.|[^\]\\])*\]|\\x..|\\.|.`)
	items  = regexp.MustCompile(`(\\x..|\\.|.)(?:-(\\x..|\\.|.))?`)
)

// plainTree is the tree of a text that is right.
func plainTree(s string) api.Rex { return treeOf(pieces.FindAllString(s, -1)) }

// treeOf is the tree of an ALT.
func treeOf(l []string) api.Rex {
	open := 0
	for i := len(l) - 1; i >= 0; i-- {
		switch {
		case l[i] == ")":
			open++
		case l[i] == "(":
			open--
		case l[i] == "|" && open == 0:
			return alt(treeOf(l[:i]), catOf(l[i+1:]))
		}
	}
	return catOf(l)
}

func catOf(l []string) api.Rex {
	at := len(l) - 1
	for at > 0 && strings.Contains("*+?", l[at]) {
		at--
	}
	for open := 0; ; at-- {
		if l[at] == ")" {
			open++
		} else if l[at] == "(" {
			open--
		}
		if open == 0 {
			break
		}
	}
	if at == 0 {
		return repOf(l)
	}
	return cat(catOf(l[:at]), repOf(l[at:]))
}

func repOf(l []string) api.Rex {
	kid, last := l[:len(l)-1], l[len(l)-1]
	switch {
	case last == "*":
		return star(repOf(kid))
	case last == "+":
		return cat(repOf(kid), star(repOf(kid)))
	case last == "?":
		return alt(repOf(kid), empty())
	case last == ")" && len(l) == 2:
		return empty()
	case last == ")":
		return treeOf(l[1 : len(l)-1])
	case last == "[]":
		return none()
	case last == ".":
		return but("\n")
	case last[0] == '[':
		return classOf(last[1 : len(last)-1])
	}
	code := codeOf(last)
	return run(code, code)
}

// classOf is the RByte of what stands in square brackets.
func classOf(inside string) api.Rex {
	listed, others := strings.CutPrefix(inside, "^")
	var in set
	for _, item := range items.FindAllStringSubmatch(listed, -1) {
		lo := codeOf(item[1])
		hi := lo
		if item[2] != "" {
			hi = codeOf(item[2])
		}
		for b := lo; b <= hi; b++ {
			in[b] = true
		}
	}
	return bytesWhere(func(b int) bool { return in[b] != others })
}

// codeOf is the byte that a CHAR stands for.
func codeOf(char string) int {
	switch {
	case char == `\n`:
		return 10
	case char == `\t`:
		return 9
	case char == `\s`:
		return 32
	case len(char) == 4:
		n, _ := strconv.ParseInt(char[2:], 16, 0)
		return int(n)
	}
	return int(char[len(char)-1])
}

// plainParse is what Parse answers by the chapter's words.
func plainParse(s string) (api.Rex, int, api.Errno) {
	if at, err := plainWrong(s); err != api.OK {
		return api.Rex{}, at, err
	}
	r := plainTree(s)
	if err := plainCheck(r); err != api.OK {
		return api.Rex{}, len(s), err
	}
	return r, 0, api.OK
}

// sameParse fails, if Parse answers otherwise than the chapter's words; it tells the error.
func sameParse(t *testing.T, s string) api.Errno {
	t.Helper()
	r, at, err := rex.Parse(s)
	want, wantAt, wantErr := plainParse(s)
	if !same(r, want) || at != wantAt || err != wantErr {
		t.Fatalf("Parse(%q) = %s, %d, %d, not %s, %d, %d", s, show(r), at, err, show(want), wantAt, wantErr)
	}
	return err
}

// wrongAt fails, if Parse answers something else than that error there.
func wrongAt(t *testing.T, s string, at int, err api.Errno) {
	t.Helper()
	r, gotAt, gotErr := rex.Parse(s)
	if !same(r, api.Rex{}) || gotAt != at || gotErr != err {
		t.Errorf("Parse(%.60q) = %s, %d, %d, not %d, %d", s, show(r), gotAt, gotErr, at, err)
	}
}

func TestP14KnownTrees(t *testing.T) {
	a, b, c := of("a"), of("b"), of("c")
	for s, want := range map[string]api.Rex{
		"a":                   a,
		"ab":                  cat(a, b),
		"abc":                 cat(cat(a, b), c),
		"a(bc)":               cat(a, cat(b, c)),
		"a|b":                 alt(a, b),
		"a|b|c":               alt(alt(a, b), c),
		"a|(b|c)":             alt(a, alt(b, c)),
		"ab|c":                alt(cat(a, b), c),
		"a|bc":                alt(a, cat(b, c)),
		"(a|b)c":              cat(alt(a, b), c),
		"a*":                  star(a),
		"a**":                 star(star(a)),
		"ab*":                 cat(a, star(b)),
		"(ab)*":               star(cat(a, b)),
		"a*b":                 cat(star(a), b),
		"a+":                  cat(a, star(a)),
		"ab+":                 cat(a, cat(b, star(b))),
		"a+*":                 star(cat(a, star(a))),
		"a*+":                 cat(star(a), star(star(a))),
		"a++":                 cat(cat(a, star(a)), star(cat(a, star(a)))),
		"(ab)+":               cat(cat(a, b), star(cat(a, b))),
		"a?":                  alt(a, empty()),
		"a??":                 alt(alt(a, empty()), empty()),
		"a?b":                 cat(alt(a, empty()), b),
		"a|b?":                alt(a, alt(b, empty())),
		"()":                  empty(),
		"()*":                 star(empty()),
		"(())":                empty(),
		"((a))":               a,
		"()()":                cat(empty(), empty()),
		"a|()":                alt(a, empty()),
		"[]":                  none(),
		"[]*":                 star(none()),
		"[][]":                cat(none(), none()),
		"[]a":                 cat(none(), a),
		".":                   but("\n"),
		"..":                  cat(but("\n"), but("\n")),
		"[a]":                 a,
		"[ab]":                of("ab"),
		"[ba]":                of("ab"),
		"[aa]":                a,
		"[a-c]":               of("abc"),
		"[a-a]":               a,
		"[a-cb-d]":            of("abcd"),
		"[a-cx-z]":            of("abcxyz"),
		"[xa-c]":              of("abcx"),
		"[^]":                 but(""),
		"[^a]":                but("a"),
		"[^a-c]":              but("abc"),
		"[^\\n]":              but("\n"),
		"[^\\x00-\\xfe]":      of("\xff"),
		"[\\x00-\\xff]":       but(""),
		"[\\--\\]]":           run('-', ']'),
		"[\\t-\\s]":           run(9, 32),
		"[\\^a]":              of("^a"),
		"[^\\^]":              but("^"),
		"\\n":                 of("\n"),
		"\\t":                 of("\t"),
		"\\s":                 of(" "),
		"\\x00":               of("\x00"),
		"\\x0a":               of("\n"),
		"\\x61":               a,
		"\\xff":               of("\xff"),
		"\\x611":              cat(a, of("1")),
		"\\(\\)":              cat(of("("), of(")")),
		"\\\\":                of("\\"),
		"\\|*":                star(of("|")),
		"n":                   of("n"),
		"x41":                 cats(of("x"), of("4"), of("1")),
		"~!":                  cat(of("~"), of("!")),
		"\"'`,{}$&/<>=@_#%;:": cats(of("\""), of("'"), of("`"), of(","), of("{"), of("}"), of("$"), of("&"), of("/"), of("<"), of(">"), of("="), of("@"), of("_"), of("#"), of("%"), of(";"), of(":")),
	} {
		if got, at, err := rex.Parse(s); !same(got, want) || at != 0 || err != api.OK {
			t.Errorf("Parse(%q) = %s, %d, %d, not %s", s, show(got), at, err, show(want))
		}
		sameParse(t, s)
	}
}

func TestP14KnownErrors(t *testing.T) {
	for s, at := range map[string]int{
		"": 0, "|": 0, ")": 0, "*": 0, "+a": 0, "?": 0, "]": 0, "^": 0, "-": 0, " ": 0, "\n": 0, "\x00": 0, "\x7f": 0, "\xff": 0,
		"a|": 2, "a||b": 2, "|a": 0, "a|*": 2, "a|)": 2, "a)": 1, "a b": 1, "a^": 1, "a-b": 1, "a]": 1, "a\x00": 1, "aé": 1, "a|\x00": 2,
		"(": 1, "((": 2, "(a": 2, "(a|": 3, "(a|)": 3, "(|a)": 1, "(*)": 1, "()": -1, "())": 2, "(a))": 3, "(a)b)": 4, "(()": 3, "(]": 1,
		"[": 1, "[^": 2, "[a": 2, "[a-": 3, "[a-b": 4, "[^a": 3, "[a-]": 3, "[-a]": 1, "[a-b-c]": 4, "[--a]": 1, "[a--]": 3, "[a-b-]": 4,
		"[[]": 1, "[a[]": 2, "[(]": 1, "[a|b]": 2, "[*]": 1, "[.]": 1, "[^^]": 2, "[a^]": 2, "[?]": 1, "[+]": 1, "[)]": 1, "[ ]": 1, "[a\n]": 2, "[\x80]": 1,
		"[b-a]": 3, "[ab-aa]": 4, "[a-\\n]": 3, "[b-\\x61]": 3, "[\\x62-a]": 6, "[\\s-\\t]": 4, "[a-zb-a]": 6, "[^b-a]": 4, "[b-\\x6": 6, "[b-\\x6]": 6, "[b-\\q]": 4, "[b-\\": 4,
		"[^\\x00-\\xff]": 11, "[^\\x00-\\xff]x": 11, "a[^\\x00-\\xff]": 12, "[^\\x00-\\xffa]": 12, "[^\\x00-`a-\\xff]": 14, "[^\\x00-\\xff": 11, "[^\\x00-\\xff-]": 11,
		"[]]": 2, "[]a]": 3, "[^]]": 3,
		"\\": 1, "\\q": 1, "\\a": 1, "\\N": 1, "\\x": 2, "\\x4": 3, "\\xg0": 2, "\\x0g": 3, "\\xA0": 2, "\\x0A": 3, "\\X41": 1, "\\ ": 1, "\\\n": 1, "\\\x00": 1, "\\{": 1, "a\\": 2, "\\\\\\": 3, "\\0": 1, "\\x-": 2, "\\x(1": 2,
		"[\\": 2, "[\\]": 3, "[\\q]": 2, "[\\x]": 3, "[\\x4]": 4, "[\\x4": 4, "[\\x4g]": 4, "[a\\ ]": 3,
	} {
		if at >= 0 {
			wrongAt(t, s, at, api.ErrSyntax)
		}
		sameParse(t, s)
	}
}

func TestP14AllShortTexts(t *testing.T) {
	right := 0
	for _, c := range []struct {
		longest  int
		alphabet string
	}{{4, `ab()[]|*+?.^-\xn0 `}, {5, `a()[]|*+?^-\`}, {6, `a()|*[]^`}, {7, `a()|*`}, {5, `ab[]^-\`}} {
		for _, s := range textsUpTo(c.longest, c.alphabet) {
			if sameParse(t, s) == api.OK {
				right++
			}
		}
	}
	if right < 10000 {
		t.Errorf("only %d texts are right", right)
	}
}

func TestP14AllShortClasses(t *testing.T) {
	for _, inside := range textsUpTo(5, `ab^-]\x6`) {
		sameParse(t, "["+inside)
		sameParse(t, "["+inside+"]")
	}
	for _, inside := range textsUpTo(4, `\x06-f]`) {
		sameParse(t, `[^\x00-\xff`+inside)
		sameParse(t, `[\x60-\x`+inside)
		sameParse(t, `a[^b-\x`+inside+`]*`)
	}
}

// Each byte, in each place in which something else may come, with and without something behind it.
func TestP14EachByteAnywhere(t *testing.T) {
	for _, ahead := range []string{"", "a", "a|", "(", "(a", "(a|", "()", "a*", "[", "[^", "[a", "[^a", "[a-", "[a-c", "[^a-c", `\`, `\x`, `\x4`, `[\`, `[\x`, `[\x4`, `[a-\`, `[a-\x`, `[a-\x7`, `[a\`, `[]`, `[^]`, `.`, `[^\x00-\xff`, strings.Repeat("(", 29), strings.Repeat("(", 30)} {
		for b := range 256 {
			for _, after := range []string{"", "a", "]", ")", "a]", "b)", "1]"} {
				sameParse(t, ahead+string([]byte{byte(b)})+after)
			}
		}
	}
}

func TestP14EachCode(t *testing.T) {
	for b := range 256 {
		for _, form := range []string{`\x%02x`, `[\x%02x]`, `[\x%02x-\x%02[1]x]`} {
			s := fmt.Sprintf(form, b)
			if r, at, err := rex.Parse(s); !same(r, run(b, b)) || at != 0 || err != api.OK {
				t.Errorf("Parse(%q) = %s, %d, %d", s, show(r), at, err)
			}
		}
		for other := range 256 {
			s := fmt.Sprintf(`[\x%02x-\x%02x]`, b, other)
			if other < b {
				wrongAt(t, s, 6, api.ErrSyntax)
			} else if r, _, err := rex.Parse(s); !same(r, run(b, other)) || err != api.OK {
				t.Errorf("Parse(%q) = %s, %d", s, show(r), err)
			}
		}
	}
}

func TestP14OpenBrackets(t *testing.T) {
	for _, inside := range []string{"a", "a*", "a|b", "()", "(a)", "(", "()()", "", `\(`, "[(]", "a(b)", "((", ")"} {
		for open := 27; open <= 33; open++ {
			sameParse(t, strings.Repeat("(", open)+inside+strings.Repeat(")", open))
			sameParse(t, strings.Repeat("(", open)+inside)
		}
	}
	thirty := strings.Repeat("(", 30)
	if r, _, err := rex.Parse(thirty + "a" + strings.Repeat(")", 30)); !same(r, of("a")) || err != api.OK {
		t.Errorf("thirty brackets: %s, %d", show(r), err)
	}
	if r, _, err := rex.Parse(thirty[1:] + "()" + strings.Repeat(")", 29)); !same(r, empty()) || err != api.OK {
		t.Errorf("thirty brackets of nothing: %s, %d", show(r), err)
	}
	wrongAt(t, thirty+"(", 30, api.ErrDeep)
	wrongAt(t, thirty+"()", 30, api.ErrDeep)
	wrongAt(t, thirty+"a)(b)(c(", 37, api.ErrDeep)
	wrongAt(t, thirty+"ab(c", 32, api.ErrDeep)
	wrongAt(t, thirty+`\(|(`, 33, api.ErrDeep)
	wrongAt(t, thirty+"*(", 30, api.ErrSyntax)
	wrongAt(t, thirty+"[(", 31, api.ErrSyntax)
	wrongAt(t, "*"+thirty+"(", 0, api.ErrSyntax)
	// Brackets that are closed again don't count.
	wrongAt(t, strings.Repeat("(a)", 40), 120, api.ErrDeep)
	wrongAt(t, strings.Repeat("()", 40)+")", 80, api.ErrSyntax)
}

func TestP14HowLong(t *testing.T) {
	long := strings.Repeat("a", 301)
	for _, s := range []string{long, "*" + long, strings.Repeat("(", 301), strings.Repeat("\xff", 1<<20), "[" + long + "]"} {
		wrongAt(t, s, 0, api.ErrLarge)
	}
	wrongAt(t, strings.Repeat("(", 300), 30, api.ErrDeep)
	wrongAt(t, strings.Repeat("a", 299)+"|", 300, api.ErrSyntax)
	wrongAt(t, strings.Repeat("a", 300), 300, api.ErrDeep)
	wrongAt(t, strings.Repeat("a", 299)+"*", 300, api.ErrDeep)
	for _, n := range []int{298, 297} {
		if r, at, err := rex.Parse("[" + long[:n] + "]"); !same(r, of("a")) || at != 0 || err != api.OK {
			t.Errorf("%d bytes: %s, %d, %d", n+2, show(r), at, err)
		}
	}
	wrongAt(t, "["+long[:299]+"]", 0, api.ErrLarge)
}

func TestP14TreesThatAreTooGreat(t *testing.T) {
	thirty := strings.Repeat("a", 30)
	if r, _, err := rex.Parse(thirty); size(r) != 59 || err != api.OK {
		t.Errorf("thirty bytes: %s, %d", show(r), err)
	}
	wrongAt(t, thirty+"a", 31, api.ErrDeep)
	wrongAt(t, strings.Repeat("a|", 30)+"a", 61, api.ErrDeep)
	wrongAt(t, "a"+strings.Repeat("*", 30), 31, api.ErrDeep)
	wrongAt(t, "a"+strings.Repeat("?", 30), 31, api.ErrDeep)
	// What is wrong with the text itself comes first, wherever it is.
	wrongAt(t, thirty+"aa)", 32, api.ErrSyntax)
	wrongAt(t, thirty+"aa(", 33, api.ErrSyntax)
	// (a to j), five times, side by side: a hundred nodes and more, but not so deep.
	ten := "(abcdefghij)"
	wrongAt(t, strings.Repeat(ten, 6), 72, api.ErrLarge)
	if r, _, err := rex.Parse(strings.Repeat(ten, 5) + "*"); size(r) != 100 || err != api.OK {
		t.Errorf("a hundred nodes: %s, %d", show(r), err)
	}
	wrongAt(t, strings.Repeat(ten, 5)+"**", 62, api.ErrLarge)
	for _, s := range []string{thirty, thirty + "a", strings.Repeat(ten, 5) + "*", strings.Repeat(ten, 5) + "**", "a" + strings.Repeat("*", 29), "a" + strings.Repeat("*?", 15)} {
		sameParse(t, s)
	}
}

// Each `+` doubles the tree, so that a row of them would make one without a bound.
func TestP14RowsOfPlus(t *testing.T) {
	for n := range 13 {
		sameParse(t, "a"+strings.Repeat("+", n))
		sameParse(t, "(ab|[c-f])"+strings.Repeat("+", n))
		sameParse(t, "a"+strings.Repeat("+?", n/2))
	}
	for _, n := range []int{6, 10, 14} {
		wrongAt(t, "a"+strings.Repeat("+", n), n+1, api.ErrLarge)
	}
	for _, n := range []int{30, 100, 299} {
		wrongAt(t, "a"+strings.Repeat("+", n), n+1, api.ErrDeep)
	}
	wrongAt(t, "a"+strings.Repeat("+", 298)+")", 299, api.ErrSyntax)
	wrongAt(t, strings.Repeat("(", 30)+"a"+strings.Repeat("+)", 30)+strings.Repeat("+", 200), 291, api.ErrDeep)
}

// wildText is a text by the forms of the chapter's table, of so many parts at the most, with so many brackets around.
func wildText(rng *rand.Rand, wide, deep int) string {
	var b strings.Builder
	for range 1 + rng.Intn(wide) {
		if b.Len() > 0 && rng.Intn(3+wide/2) == 0 {
			b.WriteByte('|')
		}
		if deep > 0 && rng.Intn(3) == 0 {
			b.WriteString("(" + wildText(rng, wide, deep-1) + ")")
		} else {
			b.WriteString(wildAtom(rng))
		}
		b.WriteString([]string{"", "", "", "*", "+", "?", "*?"}[rng.Intn(7)])
	}
	return b.String()
}

func wildAtom(rng *rand.Rand) string {
	switch rng.Intn(8) {
	case 0:
		return []string{"()", "[]", ".", "[^]"}[rng.Intn(4)]
	case 1, 2, 3:
		s := "["
		if rng.Intn(3) == 0 {
			s = "[^"
		}
		for range 1 + rng.Intn(3) {
			lo := rng.Intn(256)
			s += wildChar(rng, lo)
			if rng.Intn(2) == 0 {
				s += "-" + wildChar(rng, lo+rng.Intn(256-lo))
			}
		}
		return s + "]"
	}
	return wildChar(rng, rng.Intn(256))
}

// wildChar is one of the CHARs of a byte.
func wildChar(rng *rand.Rand, b int) string {
	if rng.Intn(4) == 0 {
		return fmt.Sprintf(`\x%02x`, b)
	}
	return charOf(b)
}

func TestP14WildTexts(t *testing.T) {
	rng := rand.New(rand.NewSource(4))
	seen := map[api.Errno]int{}
	for range 20000 {
		wide, deep := 1+rng.Intn(8), 3
		if rng.Intn(10) == 0 {
			wide, deep = 60, 0
		}
		s := wildText(rng, wide, deep)
		if plainCheckable(s) {
			seen[sameParse(t, s)]++
		}
		at := rng.Intn(len(s) + 1)
		odd := string([]byte{(signs + "ax0 ")[rng.Intn(len(signs)+4)]})
		for _, other := range []string{s[:at], s[:at] + odd + s[at:], s[:at] + s[min(at+1, len(s)):]} {
			if plainCheckable(other) {
				seen[sameParse(t, other)]++
			}
		}
	}
	for _, err := range []api.Errno{api.OK, api.ErrSyntax, api.ErrDeep, api.ErrLarge} {
		if seen[err] < 100 {
			t.Errorf("only %d texts with error %d", seen[err], err)
		}
	}
}

// plainCheckable: may the plain tree of s be made, or would its `+` make it too great?
func plainCheckable(s string) bool { return strings.Count(s, "+") <= 12 }
