package rex_test

import (
	"fmt"
	"math/rand"
	"strings"
	"testing"

	"pushmill/api"
	"pushmill/rex"
)

// charOf is the CHAR of a byte.
func charOf(b int) string {
	switch {
	case b == 10:
		return `\n`
	case b == 9:
		return `\t`
	case b == 32:
		return `\s`
	case b < 33 || b > 126:
		return fmt.Sprintf(`\x%02x`, b)
	case strings.ContainsRune(signs, rune(b)):
		return `\` + string(rune(b))
	}
	return string(rune(b))
}

// plainItems writes a set as the chapter words it, from byte to byte.
func plainItems(in set) string {
	has := func(b int) bool { return b >= 0 && b < 256 && in[b] }
	var s string
	for b := range 256 {
		switch {
		case !has(b):
		case has(b-1) && has(b+1): // within a run
			if !has(b - 2) {
				s += "-"
			}
		default: // the first one, the last one, or both
			s += charOf(b)
		}
	}
	return s
}

func plainClass(c api.Class) string {
	in := read(c)
	var others set
	var all []int
	for b := range in {
		others[b] = !in[b]
		if in[b] {
			all = append(all, b)
		}
	}
	switch {
	case len(all) == 1:
		return charOf(all[0])
	case len(all) == 256:
		return "[^]"
	case len(all) == 255 && others[10]:
		return "."
	case len(all) > 128:
		return "[^" + plainItems(others) + "]"
	}
	return "[" + plainItems(in) + "]"
}

// plainPrint is the text of r; its brackets as the chapter lists them: by the kind of the node, which Kid it is, and its kind.
func plainPrint(r api.Rex) string {
	inBrackets := map[[3]int]bool{
		{6, 0, 4}: true, {6, 0, 5}: true, {6, 0, 6}: true,
		{4, 0, 5}: true, {4, 1, 5}: true, {4, 1, 4}: true,
		{5, 1, 5}: true,
	}
	var kids []string
	for i, kid := range r.Kids {
		s := plainPrint(kid)
		if inBrackets[[3]int{r.Kind, i, kid.Kind}] {
			s = "(" + s + ")"
		}
		kids = append(kids, s)
	}
	switch r.Kind {
	case 1:
		return "[]"
	case 2:
		return "()"
	case 3:
		return plainClass(r.Class)
	case 5:
		return strings.Join(kids, "|")
	case 6:
		return kids[0] + "*"
	}
	return strings.Join(kids, "")
}

// samePrint fails, if Print answers otherwise than the chapter's words, or Parse doesn't bring the tree back.
func samePrint(t *testing.T, r api.Rex) {
	t.Helper()
	got, err := rex.Print(r)
	if want := plainPrint(r); got != want || err != api.OK {
		t.Fatalf("Print(%s) = %q, %d, not %q", show(r), got, err, want)
	}
	back, at, err := rex.Parse(got)
	if len(got) > 300 {
		if err != api.ErrLarge {
			t.Fatalf("Parse of %d bytes: %d", len(got), err)
		}
		return
	}
	if !same(back, r) || at != 0 || err != api.OK {
		t.Fatalf("Parse(%q) = %s, %d, %d, not %s", got, show(back), at, err, show(r))
	}
}

func TestP15Known(t *testing.T) {
	a, b, c := of("a"), of("b"), of("c")
	for _, k := range []struct {
		r    api.Rex
		want string
	}{
		{none(), "[]"},
		{empty(), "()"},
		{a, "a"},
		{of("\n"), `\n`},
		{of("\t"), `\t`},
		{of(" "), `\s`},
		{of("\r"), `\x0d`},
		{of("\x00"), `\x00`},
		{of("\x1f"), `\x1f`},
		{of("\x7f"), `\x7f`},
		{of("\xff"), `\xff`},
		{of("!"), "!"},
		{of("~"), "~"},
		{of("("), `\(`},
		{of("-"), `\-`},
		{of("^"), `\^`},
		{of(`\`), `\\`},
		{of("x"), "x"},
		{but(""), "[^]"},
		{but("\n"), "."},
		{but("\t"), `[^\t]`},
		{but("ab"), "[^ab]"},
		{but("\x00\xff"), `[^\x00\xff]`},
		{of("ab"), "[ab]"},
		{of("abc"), "[a-c]"},
		{of("ac"), "[ac]"},
		{of("abd"), "[abd]"},
		{of("abcxyz"), "[a-cx-z]"},
		{of("bcdz0"), "[0b-dz]"},
		{of("\t\n"), `[\t\n]`},
		{of("\t\n\x0b"), `[\t-\x0b]`},
		{of("*+"), `[\*\+]`},
		{of("[\\]^"), `[\[-\^]`},
		{of("\xfe\xff"), `[\xfe\xff]`},
		{of("\xfd\xfe\xff"), `[\xfd-\xff]`},
		{run(0, 127), `[\x00-\x7f]`},
		{run(128, 255), `[\x80-\xff]`},
		{run(0, 128), `[^\x81-\xff]`},
		{run(127, 255), `[^\x00-~]`},
		{run(0, 254), `[^\xff]`},
		{run(1, 255), `[^\x00]`},
		{star(a), "a*"},
		{star(none()), "[]*"},
		{star(empty()), "()*"},
		{star(but("\n")), ".*"},
		{star(of("ab")), "[ab]*"},
		{star(star(a)), "(a*)*"},
		{star(cat(a, b)), "(ab)*"},
		{star(alt(a, b)), "(a|b)*"},
		{cat(a, b), "ab"},
		{cat(cat(a, b), c), "abc"},
		{cat(a, cat(b, c)), "a(bc)"},
		{cat(alt(a, b), c), "(a|b)c"},
		{cat(a, alt(b, c)), "a(b|c)"},
		{cat(star(a), star(b)), "a*b*"},
		{cat(empty(), none()), "()[]"},
		{alt(a, b), "a|b"},
		{alt(alt(a, b), c), "a|b|c"},
		{alt(a, alt(b, c)), "a|(b|c)"},
		{alt(cat(a, b), cat(b, c)), "ab|bc"},
		{alt(star(a), empty()), "a*|()"},
		{alt(star(alt(a, b)), cat(c, alt(a, b))), "(a|b)*|c(a|b)"},
	} {
		if got, err := rex.Print(k.r); got != k.want || err != api.OK {
			t.Errorf("Print(%s) = %q, %d, not %q", show(k.r), got, err, k.want)
		}
		samePrint(t, k.r)
	}
}

func TestP15AllSmallTrees(t *testing.T) {
	for _, trees := range treesUpTo(6, none(), empty(), of("a"), of("-z")) {
		for _, r := range trees {
			samePrint(t, r)
		}
	}
	for _, r := range treesUpTo(9, of("a"))[9] {
		samePrint(t, r)
	}
}

func TestP15EachRunOfBytes(t *testing.T) {
	for lo := range 256 {
		for hi := lo; hi < 256; hi++ {
			samePrint(t, run(lo, hi))
			if lo > 0 || hi < 255 {
				samePrint(t, bytesWhere(func(b int) bool { return b < lo || b > hi }))
			}
		}
	}
}

// All choices among the bytes at the edges of what is seen, and among blanks; and what they leave.
func TestP15AllChoicesOfAFewBytes(t *testing.T) {
	for _, few := range []string{"\x1f !\"#$%", "}~\x7f\x80\x81", "\x00\x01\x02\x3f\x40\x41\xfd\xfe\xff", "\x08\t\n\x0b\x0c", "()*+,-.", "[\\]^_"} {
		for chosen := 1; chosen < 1<<len(few); chosen++ {
			in := func(b int) bool {
				i := strings.IndexByte(few, byte(b))
				return i >= 0 && chosen>>i%2 == 1
			}
			samePrint(t, bytesWhere(in))
			samePrint(t, bytesWhere(func(b int) bool { return !in(b) }))
		}
	}
}

func TestP15HowManyBytes(t *testing.T) {
	for _, c := range []struct {
		r     api.Rex
		ahead string
	}{
		{bytesWhere(func(b int) bool { return b%2 == 0 }), "[\\x00\\x02"},
		{bytesWhere(func(b int) bool { return b%2 == 0 || b == 1 }), "[^\\x03"},
		{bytesWhere(func(b int) bool { return b%2 == 0 && b > 0 }), "[\\x02"},
		{bytesWhere(func(b int) bool { return b != 1 && b != 10 }), "[^\\x01\\n]"},
	} {
		if got, err := rex.Print(c.r); !strings.HasPrefix(got, c.ahead) || err != api.OK {
			t.Errorf("%q, %d, not %q", got, err, c.ahead)
		}
		samePrint(t, c.r)
	}
}

func TestP15WildTrees(t *testing.T) {
	rng := rand.New(rand.NewSource(5))
	short := 0
	for range 3000 {
		r := wildTree(rng, 1+rng.Intn(100))
		if rng.Intn(2) == 0 {
			r = wildTree(rng, 1+rng.Intn(20))
		}
		if plainCheck(r) != api.OK {
			continue
		}
		samePrint(t, r)
		if len(plainPrint(r)) <= 300 {
			short++
		}
	}
	if short < 500 {
		t.Errorf("only %d texts are short", short)
	}
}

// leaves has n leaves.
func leaves(n int) []api.Rex {
	var l []api.Rex
	for i := range n {
		l = append(l, run('b'+i%20, 'b'+i%20))
	}
	return l
}

func TestP15GreatTrees(t *testing.T) {
	for _, r := range append(hundred(), stars(29, of("a")), cats(of("a"), leaves(29)...)) {
		samePrint(t, r)
	}
	right := of("a")
	for _, leaf := range leaves(29) {
		right = cat(leaf, right)
	}
	samePrint(t, right)
}

// Texts of just as many bytes as Parse takes, of one more, and of others about as long.
func TestP15LongTexts(t *testing.T) {
	seen := map[int]bool{}
	for last := 190; last < 230; last++ {
		for behind := range 5 {
			r := cats(bytesWhere(func(b int) bool { return b <= last && b%2 == 0 }), leaves(behind)...)
			samePrint(t, r)
			seen[len(plainPrint(r))] = true
		}
	}
	for n := 296; n <= 304; n++ {
		if !seen[n] {
			t.Errorf("no text of %d bytes", n)
		}
	}
}

func TestP15WrongTrees(t *testing.T) {
	wrong := append(wrongNodes(), withoutEnd()...)
	wrong = append(wrong, stars(30, of("a")), full(7, of("a")), cat(of("a"), api.Rex{}), alt(api.Rex{Kind: 3}, of("a")))
	for _, r := range wrong {
		if got, err := rex.Print(r); got != "" || err != plainCheck(r) || err == api.OK {
			t.Errorf("Print(%s) = %q, %d, not %d", show(r), got, err, plainCheck(r))
		}
	}
}
