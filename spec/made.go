package spec

import (
	"slices"

	"pushmill/api"
	"pushmill/cfg"
	"pushmill/dfa"
	"pushmill/facts"
	"pushmill/ll"
	"pushmill/lr"
	"pushmill/places"
	"pushmill/small"
)

// none stands for the terminal of a word that is passed over.
const none = -1

// Make is what a parse of s needs: P52.
func Make(s api.Spec) (api.Made, api.Errno) {
	if err := Check(s); err != api.OK {
		return api.Made{}, err
	}
	if len(s.Words) == 0 || len(s.Rules) == 0 {
		return api.Made{}, api.ErrArg
	}
	p, err := places.Make(rexes(s.Words))
	if err != api.OK {
		return api.Made{}, err
	}
	of := terminals(s.Words)
	g, err := grammar(s, slices.Max(of)+1)
	if err != api.OK {
		return api.Made{}, err
	}
	lexer, err := smallest(p)
	if err != api.OK {
		return api.Made{}, err
	}
	if err := checkUse(g); err != api.OK {
		return api.Made{}, err
	}
	return withTable(api.Made{Of: of, Lexer: lexer, Grammar: g})
}

func rexes(words []api.Word) []api.Rex {
	l := make([]api.Rex, len(words))
	for i, w := range words {
		l[i] = w.Rex
	}
	return l
}

// terminals has of each word the number of its terminal, or none.
func terminals(words []api.Word) []int {
	l := make([]int, len(words))
	next := 0
	for i, w := range words {
		l[i] = none
		if w.Name != "" {
			l[i] = next
			next++
		}
	}
	return l
}

// grammar is that of the rules of s, if it isn't too large. Whether it has too many terminals is not asked: places.Make
// takes fewer words than there may be terminals.
func grammar(s api.Spec, terms int) (api.Grammar, api.Errno) {
	if len(s.Rules) > api.MaxProds {
		return api.Grammar{}, api.ErrLarge
	}
	known := symbols(s)
	g := api.Grammar{Terms: terms}
	for _, r := range s.Rules {
		head := known[r.Head].N
		if head >= api.MaxNons || len(r.Body) > api.MaxWidth {
			return api.Grammar{}, api.ErrLarge
		}
		g.Nons = max(g.Nons, head+1)
		g.Prods = append(g.Prods, api.Prod{Head: head, Body: bodyOf(r, known)})
	}
	return g, api.OK
}

// bodyOf has what the names of r's Body stand for.
func bodyOf(r api.Rule, known map[string]api.Sym) []api.Sym {
	l := make([]api.Sym, len(r.Body))
	for i, name := range r.Body {
		l[i] = known[name]
	}
	return l
}

// smallest is the automaton of p with as few states and columns as there may be.
func smallest(p api.Posn) (api.Packed, api.Errno) {
	d, err := dfa.Make(p)
	if err != api.OK {
		return api.Packed{}, err
	}
	if d, err = small.Minimal(d); err != api.OK {
		return api.Packed{}, err
	}
	return small.Pack(d)
}

// checkUse tells whether each nonterminal of g can be come to and makes a word.
func checkUse(g api.Grammar) api.Errno {
	f, err := facts.Of(g)
	if err != api.OK {
		return err
	}
	if slices.Contains(f.Reach, false) || slices.Contains(f.Makes, false) {
		return api.ErrForm
	}
	return api.OK
}

// withTable is m with the rows of its grammar or, where they clash, with its table.
func withTable(m api.Made) (api.Made, api.Errno) {
	rows, clashes, err := ll.Make(m.Grammar)
	if err != api.OK {
		return api.Made{}, err
	}
	if len(clashes) == 0 {
		m.Mode, m.Rows = api.ByLL, rows
		return m, api.OK
	}
	table, fights, err := lr.Make(m.Grammar)
	if err != api.OK {
		return api.Made{}, err
	}
	if len(fights) > 0 {
		return api.Made{}, api.ErrClash
	}
	m.Mode, m.Table = api.ByLR, table
	return m, api.OK
}

// Right tells whether m has the form of what Make makes, be it made so or not: P53.
func Right(m api.Made) api.Errno {
	if err := small.Check(m.Lexer); err != api.OK {
		return err
	}
	if cfg.Check(m.Grammar) != api.OK || !fitWords(m) {
		return api.ErrArg
	}
	switch m.Mode {
	case api.ByLL:
		return ll.Check(m.Grammar, m.Rows)
	case api.ByLR:
		return lr.Check(m.Grammar, m.Table)
	}
	return api.ErrArg
}

// fitWords: do the words of m fit its grammar, and its lexer them?
func fitWords(m api.Made) bool {
	if len(m.Of) == 0 || len(m.Of) > api.MaxRules {
		return false
	}
	for _, terminal := range m.Of {
		if terminal < none || terminal >= m.Grammar.Terms {
			return false
		}
	}
	return slices.Max(m.Lexer.Tags) < len(m.Of)
}
