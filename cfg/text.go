package cfg

import (
	"strconv"
	"strings"

	"pushmill/api"
)

const (
	lineEnd   = "\n"
	blank     = " "
	headEnd   = ":"
	termSign  = "t"
	nonSign   = "n"
	maxDigits = 9 // of a number in a text
)

// Write is the text of g: P30.
func Write(g api.Grammar) (string, api.Errno) {
	if err := Check(g); err != api.OK {
		return "", err
	}
	var b strings.Builder
	b.WriteString(strconv.Itoa(g.Terms) + blank + strconv.Itoa(g.Nons) + lineEnd)
	for _, p := range g.Prods {
		b.WriteString(prodText(p) + lineEnd)
	}
	return b.String(), api.OK
}

// prodText is the line of a production, without its end.
func prodText(p api.Prod) string {
	text := strconv.Itoa(p.Head) + headEnd
	for _, s := range p.Body {
		text += blank + symText(s)
	}
	return text
}

func symText(s api.Sym) string {
	sign := termSign
	if s.Kind == api.Non {
		sign = nonSign
	}
	return sign + strconv.Itoa(s.N)
}

// Read is the grammar that s is the text of: P30.
func Read(s string) (api.Grammar, int, api.Errno) {
	if len(s) > api.MaxText {
		return api.Grammar{}, 0, api.ErrLarge
	}
	var g api.Grammar
	for n, rest := 1, s; n == 1 || rest != ""; n++ {
		line, behind, ended := strings.Cut(rest, lineEnd)
		if !ended || !addLine(&g, n, line) {
			return api.Grammar{}, n, api.ErrSyntax
		}
		rest = behind
	}
	if err := Check(g); err != api.OK {
		return api.Grammar{}, 0, err
	}
	return g, 0, api.OK
}

// addLine puts into g what line number n says; false, if it is no such line.
func addLine(g *api.Grammar, n int, line string) bool {
	var ok bool
	if n == 1 {
		g.Terms, g.Nons, ok = readCounts(line)
		return ok
	}
	p, ok := readProd(line)
	g.Prods = append(g.Prods, p)
	return ok
}

// readCounts reads how many terminals and nonterminals there are.
func readCounts(line string) (int, int, bool) {
	// Without a blank there is nothing behind it either, and that is no number.
	ahead, behind, _ := strings.Cut(line, blank)
	terms, isTerms := readNumber(ahead)
	nons, isNons := readNumber(behind)
	return terms, nons, isTerms && isNons
}

func readProd(line string) (api.Prod, bool) {
	ahead, behind, found := strings.Cut(line, headEnd)
	head, ok := readNumber(ahead)
	if !found || !ok {
		return api.Prod{}, false
	}
	body, ok := readBody(behind)
	return api.Prod{Head: head, Body: body}, ok
}

// readBody reads symbols, each with a blank ahead of it.
func readBody(s string) ([]api.Sym, bool) {
	parts := strings.Split(s, blank)
	if parts[0] != "" { // something stands ahead of the first blank
		return nil, false
	}
	var body []api.Sym
	for _, part := range parts[1:] {
		sym, ok := readSym(part)
		if !ok {
			return nil, false
		}
		body = append(body, sym)
	}
	return body, true
}

func readSym(s string) (api.Sym, bool) {
	if digits, is := strings.CutPrefix(s, termSign); is {
		n, ok := readNumber(digits)
		return api.Sym{Kind: api.Term, N: n}, ok
	}
	if digits, is := strings.CutPrefix(s, nonSign); is {
		n, ok := readNumber(digits)
		return api.Sym{Kind: api.Non, N: n}, ok
	}
	return api.Sym{}, false
}

// readNumber reads a number that stands as Write writes it: the library would take signs and noughts ahead, too.
func readNumber(s string) (int, bool) {
	if s == "" || len(s) > maxDigits || s[0] == '0' && len(s) > 1 {
		return 0, false
	}
	n := 0
	for i := range len(s) {
		if s[i] < '0' || s[i] > '9' {
			return 0, false
		}
		n = n*10 + int(s[i]-'0')
	}
	return n, true
}
