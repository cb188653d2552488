package spec_test

import (
	"fmt"
	"math/rand"
	"reflect"
	"regexp"
	"slices"
	"strings"
	"testing"

	"pushmill/api"
	"pushmill/cfg"
	"pushmill/dfa"
	"pushmill/ll"
	"pushmill/lr"
	"pushmill/places"
	"pushmill/rex"
	"pushmill/small"
	"pushmill/spec"
)

// What follows makes Specs, and reads the chapter otherwise than the program does.

// must is the regular expression of a text.
func must(source string) api.Rex {
	r, at, err := rex.Parse(source)
	if err != api.OK {
		panic(fmt.Sprint(source, at, err))
	}
	return r
}

// named is how a name stands in said: `~` is the empty one, a capital letter with digits that letter so many times.
func named(s string) string {
	var n int
	var letter rune
	if s == "~" {
		return ""
	}
	if got, _ := fmt.Sscanf(s, "%c%d", &letter, &n); got == 2 {
		return strings.Repeat(strings.ToLower(string(letter)), n)
	}
	return s
}

// said is a Spec, right or wrong, of such lines: `NAME: REX`, of no name `~: REX`; `HEAD = NAME ..`. Where `!` is the regular
// expression stands one that is none.
func said(lines ...string) api.Spec {
	var s api.Spec
	for _, line := range lines {
		pieces := strings.Fields(line)
		if name, is := strings.CutSuffix(pieces[0], ":"); is {
			r := api.Rex{Kind: 9}
			if pieces[1] != "!" {
				r = must(pieces[1])
			}
			s.Words = append(s.Words, api.Word{Name: named(name), Rex: r})
			continue
		}
		r := api.Rule{Head: named(pieces[0])}
		for _, name := range pieces[2:] {
			r.Body = append(r.Body, named(name))
		}
		s.Rules = append(s.Rules, r)
	}
	return s
}

// sums are numbers with signs between them, by LL.
func sums() api.Spec {
	return said("num: [0-9]+", "plus: \\+", "~: \\s", "e = num r", "r =", "r = plus num r")
}

// rows are `a`s, one behind the other, not by LL.
func rows() api.Spec { return said("a: a", "s = s a", "s = a") }

// show tells of a thing, which may be great.
func show(thing any) string {
	s := fmt.Sprintf("%+v", thing)
	if len(s) > 1500 {
		s = s[:1500] + fmt.Sprintf("... (of %d bytes)", len(s))
	}
	return s
}

// sameRex: are these one tree? Lists of none may be nil or not.
func sameRex(a, b api.Rex) bool {
	return a.Kind == b.Kind && a.Class == b.Class && slices.EqualFunc(a.Kids, b.Kids, sameRex)
}

func sameSpec(a, b api.Spec) bool {
	return slices.EqualFunc(a.Words, b.Words, func(v, w api.Word) bool {
		return v.Name == w.Name && sameRex(v.Rex, w.Rex)
	}) && slices.EqualFunc(a.Rules, b.Rules, func(q, r api.Rule) bool {
		return q.Head == r.Head && slices.Equal(q.Body, r.Body)
	})
}

func sameLists[T comparable](a, b [][]T) bool { return slices.EqualFunc(a, b, slices.Equal[[]T]) }

func samePacked(p, q api.Packed) bool {
	return p.Of == q.Of && sameLists(p.Next, q.Next) && slices.Equal(p.Tags, q.Tags)
}

func sameGrammar(g, h api.Grammar) bool {
	return g.Terms == h.Terms && g.Nons == h.Nons && slices.EqualFunc(g.Prods, h.Prods, func(p, q api.Prod) bool {
		return p.Head == q.Head && slices.Equal(p.Body, q.Body)
	})
}

func sameMade(m, n api.Made) bool {
	return slices.Equal(m.Of, n.Of) && samePacked(m.Lexer, n.Lexer) && sameGrammar(m.Grammar, n.Grammar) && m.Mode == n.Mode &&
		sameLists(m.Rows, n.Rows) && sameLists(m.Table.Acts, n.Table.Acts) && sameLists(m.Table.Goto, n.Table.Goto)
}

// fault of a Spec: in which part of Check it is looked for, in which word or rule of it, and how late there.
type fault struct {
	part, line, order int
	err               api.Errno
}

var aName = regexp.MustCompile(`\A[a-z]{1,12}\z`)

// namesOf has whose each name is: the least word's, or the least rule's.
func namesOf(s api.Spec) (words, heads map[string]int) {
	words, heads = map[string]int{}, map[string]int{}
	for i, w := range slices.Backward(s.Words) {
		words[w.Name] = i
	}
	for i, r := range slices.Backward(s.Rules) {
		heads[r.Head] = i
	}
	delete(words, "")
	delete(heads, "")
	return words, heads
}

// faults has all that is wrong with s.
func faults(s api.Spec) []fault {
	var l []fault
	if len(s.Words) > 60-len(s.Rules) {
		l = append(l, fault{0, 0, 0, api.ErrLarge})
	}
	words, heads := namesOf(s)
	for i, w := range s.Words {
		if w.Name != "" && !aName.MatchString(w.Name) {
			l = append(l, fault{1, i, 0, api.ErrArg})
		}
		if err := rex.Check(w.Rex); err != api.OK {
			l = append(l, fault{1, i, 1, err})
		}
		if first, is := words[w.Name]; is && first != i {
			l = append(l, fault{1, i, 2, api.ErrName})
		}
	}
	for i, r := range s.Rules {
		if !aName.MatchString(r.Head) {
			l = append(l, fault{2, i, 0, api.ErrArg})
		}
		if _, is := words[r.Head]; is {
			l = append(l, fault{2, i, 1, api.ErrName})
		}
		for _, name := range r.Body {
			_, isWord := words[name]
			if _, isHead := heads[name]; !isWord && !isHead {
				l = append(l, fault{3, i, 0, api.ErrName})
			}
		}
	}
	return l
}

// plainCheck tells the first one of all that is wrong.
func plainCheck(s api.Spec) api.Errno {
	l := faults(s)
	if len(l) == 0 {
		return api.OK
	}
	return slices.MinFunc(l, func(a, b fault) int {
		return slices.Compare([]int{a.part, a.line, a.order}, []int{b.part, b.line, b.order})
	}).err
}

// plainWrite writes a Spec that is right.
func plainWrite(s api.Spec) string {
	var l []string
	for _, w := range s.Words {
		pieces := []string{"token", w.Name, ""}
		if w.Name == "" {
			pieces = []string{"skip", ""}
		}
		pieces[len(pieces)-1], _ = rex.Print(w.Rex)
		l = append(l, strings.Join(pieces, " "))
	}
	for _, r := range s.Rules {
		l = append(l, strings.Join(slices.Concat([]string{"rule", r.Head, "="}, r.Body), " "))
	}
	return strings.Join(append(l, ""), "\n")
}

var (
	tokenLine = regexp.MustCompile(`\Atoken ([a-z]{1,12}) ([^\n]*)\n\z`)
	skipLine  = regexp.MustCompile(`\A(s)kip ([^\n]*)\n\z`)
	ruleLine  = regexp.MustCompile(`\Arule [a-z]{1,12} =( [a-z]{1,12})*\n\z`)
)

// plainWord is the word of a line, if it is the line of one.
func plainWord(line string) (api.Word, api.Errno) {
	name := tokenLine.ReplaceAllString(line, "$1")
	found := tokenLine.FindStringIndex(line)
	source := tokenLine.ReplaceAllString(line, "$2")
	if found == nil {
		name, source = "", skipLine.ReplaceAllString(line, "$2")
		found = skipLine.FindStringIndex(line)
	}
	if found == nil {
		return api.Word{}, api.ErrSyntax
	}
	r, _, err := rex.Parse(source)
	return api.Word{Name: name, Rex: r}, err
}

// plainRead reads a text line by line, by patterns.
func plainRead(text string) (api.Spec, int, api.Errno) {
	var s api.Spec
	if len(text) >= 4097 {
		return s, 0, api.ErrLarge
	}
	lines := strings.SplitAfter(text, "\n")
	if last := len(lines) - 1; lines[last] == "" {
		lines = lines[:last]
	}
	for i, line := range lines {
		if ruleLine.MatchString(line) {
			pieces := strings.Fields(line)
			s.Rules = append(s.Rules, api.Rule{Head: pieces[1], Body: pieces[3:]})
			continue
		}
		if len(s.Rules) > 0 {
			return api.Spec{}, i + 1, api.ErrSyntax
		}
		w, err := plainWord(line)
		if err != api.OK {
			return api.Spec{}, i + 1, err
		}
		s.Words = append(s.Words, w)
	}
	if err := plainCheck(s); err != api.OK {
		return api.Spec{}, 0, err
	}
	return s, 0, api.OK
}

// order has the names of s as they are numbered: of words, of Heads.
func order(s api.Spec) (words, heads []string) {
	for _, w := range s.Words {
		if w.Name != "" {
			words = append(words, w.Name)
		}
	}
	for _, r := range s.Rules {
		if !slices.Contains(heads, r.Head) {
			heads = append(heads, r.Head)
		}
	}
	return words, heads
}

// plainGrammar writes the grammar of s as a text, and reads that.
func plainGrammar(s api.Spec) api.Grammar {
	words, heads := order(s)
	text := fmt.Sprintf("%d %d\n", len(words), len(heads))
	for _, r := range s.Rules {
		text += fmt.Sprintf("%d:", slices.Index(heads, r.Head))
		for _, name := range r.Body {
			if i := slices.Index(words, name); i >= 0 {
				text += fmt.Sprintf(" t%d", i)
			} else {
				text += fmt.Sprintf(" n%d", slices.Index(heads, name))
			}
		}
		text += "\n"
	}
	g, at, err := cfg.Read(text)
	if err != api.OK {
		panic(fmt.Sprint(text, at, err))
	}
	return g
}

// grown has what of names comes of some by each step, till nothing new does.
func grown(names []string, step func(names []string) []string) []string {
	for {
		next := slices.Clone(names)
		for _, name := range step(names) {
			if !slices.Contains(next, name) {
				next = append(next, name)
			}
		}
		if len(next) == len(names) {
			return names
		}
		names = next
	}
}

// isUseful: can each Head be come to from the first one, and does it make a word?
func isUseful(s api.Spec) bool {
	words, heads := order(s)
	come := grown(heads[:1], func(names []string) []string {
		var l []string
		for _, r := range s.Rules {
			if slices.Contains(names, r.Head) {
				l = append(l, r.Body...)
			}
		}
		return l
	})
	makes := grown(words, func(names []string) []string {
		var l []string
		for _, r := range s.Rules {
			if !slices.ContainsFunc(r.Body, func(name string) bool { return !slices.Contains(names, name) }) {
				l = append(l, r.Head)
			}
		}
		return l
	})
	return !slices.ContainsFunc(heads, func(name string) bool {
		return !slices.Contains(come, name) || !slices.Contains(makes, name)
	})
}

// isLarge: is there more than a grammar may have?
func isLarge(s api.Spec) bool {
	words, heads := order(s)
	wide := func(r api.Rule) bool { return len(r.Body) > 8 }
	return len(words) > 30 || len(heads) > 20 || len(s.Rules) > 40 || slices.ContainsFunc(s.Rules, wide)
}

// plainLexer is the smallest automaton of the words of s, by way of the other packages.
func plainLexer(s api.Spec) (api.Packed, api.Errno) {
	var l []api.Rex
	for _, w := range s.Words {
		l = append(l, w.Rex)
	}
	p, err := places.Make(l)
	if err == api.OK && isLarge(s) {
		err = api.ErrLarge
	}
	if err != api.OK {
		return api.Packed{}, err
	}
	d, err := dfa.Make(p)
	if err != api.OK {
		return api.Packed{}, err
	}
	d, _ = small.Minimal(d)
	packed, _ := small.Pack(d)
	return packed, api.OK
}

// plainMake makes what there is to be made, one thing at a time.
func plainMake(s api.Spec) (api.Made, api.Errno) {
	if err := plainCheck(s); err != api.OK {
		return api.Made{}, err
	}
	if len(s.Words) == 0 || len(s.Rules) == 0 {
		return api.Made{}, api.ErrArg
	}
	lexer, err := plainLexer(s)
	if err != api.OK {
		return api.Made{}, err
	}
	if !isUseful(s) {
		return api.Made{}, api.ErrForm
	}
	words, _ := order(s)
	m := api.Made{Lexer: lexer, Grammar: plainGrammar(s), Mode: 1}
	for _, w := range s.Words {
		m.Of = append(m.Of, slices.Index(words, w.Name))
	}
	rows, clashes, _ := ll.Make(m.Grammar)
	if len(clashes) == 0 {
		m.Rows = rows
		return m, api.OK
	}
	m.Mode = 2
	table, fights, err := lr.Make(m.Grammar)
	if err == api.OK && len(fights) > 0 {
		err = api.ErrClash
	}
	if err != api.OK {
		return api.Made{}, err
	}
	m.Table = table
	return m, api.OK
}

// plainRight looks for each thing that may be wrong, the later ones first.
func plainRight(m api.Made) api.Errno {
	var err api.Errno
	switch m.Mode {
	default:
		err = api.ErrArg
	case 1:
		err = ll.Check(m.Grammar, m.Rows)
	case 2:
		err = lr.Check(m.Grammar, m.Table)
	}
	for _, n := range m.Of {
		if n != min(max(n, -1), m.Grammar.Terms-1) {
			err = api.ErrArg
		}
	}
	for _, tag := range m.Lexer.Tags {
		if tag > len(m.Of)-1 {
			err = api.ErrArg
		}
	}
	if n := len(m.Of); n == 0 || n >= 21 {
		err = api.ErrArg
	}
	if cfg.Check(m.Grammar) != api.OK {
		err = api.ErrArg
	}
	if wrong := small.Check(m.Lexer); wrong != api.OK {
		err = wrong
	}
	return err
}

// checks: does Check tell that?
func checks(t *testing.T, s api.Spec, want api.Errno) {
	t.Helper()
	if err := spec.Check(s); err != want {
		t.Fatalf("Check(%s): %d, not %d", show(s), err, want)
	}
}

// refused: do all calls of a Spec refuse this one with that error, and nothing beside it?
func refused(t *testing.T, s api.Spec, want api.Errno) {
	t.Helper()
	checks(t, s, want)
	if text, err := spec.Write(s); text != "" || err != want {
		t.Fatalf("Write(%s): %q %d, not %d", show(s), text, err, want)
	}
	makeFails(t, s, want)
}

// makeFails: does Make refuse it so, and tell nothing beside it?
func makeFails(t *testing.T, s api.Spec, want api.Errno) {
	t.Helper()
	if m, err := spec.Make(s); !reflect.DeepEqual(m, api.Made{}) || err != want {
		t.Fatalf("Make(%s): %s %d, not %d", show(s), show(m), err, want)
	}
}

// makes: does Make tell that, and nothing of the other mode?
func makes(t *testing.T, s api.Spec, want api.Made) {
	t.Helper()
	m, err := spec.Make(s)
	if err != api.OK || !sameMade(m, want) {
		t.Fatalf("Make(%s): %s %d, not %s", show(s), show(m), err, show(want))
	}
	if m.Mode == 1 && !reflect.DeepEqual(m.Table, api.Table{}) || m.Mode == 2 && m.Rows != nil {
		t.Fatalf("Make(%s): %s has something of the other mode", show(s), show(m))
	}
	if err := spec.Right(m); err != api.OK {
		t.Fatalf("Right(%s): %d", show(m), err)
	}
}

// makesPlainly: does Make tell what plainMake does? It tells what that is.
func makesPlainly(t *testing.T, s api.Spec) (api.Made, api.Errno) {
	t.Helper()
	want, err := plainMake(s)
	if err == api.OK {
		makes(t, s, want)
	} else {
		makeFails(t, s, err)
	}
	return want, err
}

// reads: is that the Spec of a text?
func reads(t *testing.T, text string, want api.Spec) {
	t.Helper()
	if s, at, err := spec.Read(text); !sameSpec(s, want) || at != 0 || err != api.OK {
		t.Fatalf("Read(%q): %s %d %d, not %s", text, show(s), at, err, show(want))
	}
}

// readFails: is it wrong at that line, and is nothing told beside it?
func readFails(t *testing.T, text string, at int, want api.Errno) {
	t.Helper()
	if s, line, err := spec.Read(text); !reflect.DeepEqual(s, api.Spec{}) || line != at || err != want {
		t.Fatalf("Read(%.300q): %s %d %d, not %d %d", text, show(s), line, err, at, want)
	}
}

// readsPlainly: does Read tell what plainRead does? It tells the error.
func readsPlainly(t *testing.T, text string) api.Errno {
	t.Helper()
	want, at, err := plainRead(text)
	if err == api.OK {
		reads(t, text, want)
	} else {
		readFails(t, text, at, err)
	}
	return err
}

// writes: is that the text of s, and s the Spec of that text?
func writes(t *testing.T, s api.Spec, want string) {
	t.Helper()
	text, err := spec.Write(s)
	if text != want || err != api.OK {
		t.Fatalf("Write(%s): %q %d, not %q", show(s), text, err, want)
	}
	if len(text) <= 4096 {
		readsPlainly(t, text)
	}
}

// pick is one of these.
func pick[T any](rng *rand.Rand, of ...T) T { return of[rng.Intn(len(of))] }

// sources are regular expressions as one writes them.
func sources() []string {
	return []string{"a", "b", "ab", "a+", "(a|b)*", "[0-9]+", "\\s", "\\n\\t", "x?y", "[^a-y]", ".", "()", "[]", "(a|b)*a(a|b)", "a(b|c)*d", "\\x00", "if", "[a-z]+", "\\+", "=", "(((z)))"}
}

// wildRules are rules of those Heads, of which each has one at least, with Bodies of names no wider than that; often each Head has
// the next one in its Body.
func wildRules(rng *rand.Rand, words, heads []string, more, width int) []api.Rule {
	var l []api.Rule
	linked := rng.Intn(4) > 0 && width > 0
	for i := range len(heads) + more {
		r := api.Rule{Head: pick(rng, heads...)}
		if i < len(heads) {
			r.Head = heads[i]
		}
		if linked && i < len(heads)-1 {
			r.Body = append(r.Body, heads[i+1])
		}
		for len(r.Body) < width && rng.Intn(width+1) > 0 {
			if len(words) > 0 && rng.Intn(3) > 0 {
				r.Body = append(r.Body, pick(rng, words...))
			} else {
				r.Body = append(r.Body, pick(rng, heads...))
			}
		}
		l = append(l, r)
	}
	return l
}

// names are so many, all different, of 1 to 12 letters.
func names(rng *rand.Rand, many int) []string {
	var l []string
	for len(l) < many {
		name := make([]byte, 1+rng.Intn(1+rng.Intn(12)))
		for i := range name {
			name[i] = byte('a' + rng.Intn(26))
		}
		if !slices.Contains(l, string(name)) {
			l = append(l, string(name))
		}
	}
	return l
}

// wild is a Spec that Check takes, with no more than so many words, Heads and rules beside one a Head.
func wild(rng *rand.Rand, words, heads, more, width int) api.Spec {
	var s api.Spec
	l := names(rng, words+heads)
	var had []string
	for _, name := range l[:words] {
		if rng.Intn(5) == 0 {
			name = ""
		} else {
			had = append(had, name)
		}
		s.Words = append(s.Words, api.Word{Name: name, Rex: must(pick(rng, sources()...))})
	}
	if heads > 0 {
		s.Rules = wildRules(rng, had, l[words:], more, width)
	}
	return s
}

// wildOne is a Spec that Check takes, of any size that there may be, mostly a small one.
func wildOne(rng *rand.Rand) api.Spec {
	if rng.Intn(8) == 0 {
		words := rng.Intn(25)
		heads := rng.Intn(25)
		return wild(rng, words, heads, rng.Intn(61-words-heads), rng.Intn(11))
	}
	return wild(rng, rng.Intn(5), rng.Intn(4), rng.Intn(4), 3)
}
