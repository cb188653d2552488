package lr

import (
	"pushmill/api"
	"pushmill/cfg"
)

// Check tells whether t has the form of a table of g, be it that of Make or not: P38.
func Check(g api.Grammar, t api.Table) api.Errno {
	if err := cfg.Check(g); err != api.OK {
		return err
	}
	states := len(t.Acts)
	if states > api.MaxStates {
		return api.ErrLarge
	}
	if states == 0 || len(t.Goto) != states {
		return api.ErrArg
	}
	for n := range states {
		if !areActs(g, states, t.Acts[n]) || !areNext(g, states, t.Goto[n]) {
			return api.ErrArg
		}
	}
	return api.OK
}

// areActs: are these the acts of a state, one for each terminal and one for the end?
func areActs(g api.Grammar, states int, acts []api.Act) bool {
	if len(acts) != g.Terms+1 {
		return false
	}
	for col, act := range acts {
		if !isAct(g, states, col == g.Terms, act) {
			return false
		}
	}
	return true
}

// isAct: may act stand at a terminal, or, if atEnd, at the end?
func isAct(g api.Grammar, states int, atEnd bool, act api.Act) bool {
	switch act.Kind {
	case api.ANone:
		return act.N == 0
	case api.AShift:
		return !atEnd && isBelow(act.N, states)
	case api.AReduce:
		return isBelow(act.N, len(g.Prods))
	case api.AAccept:
		return atEnd && act.N == 0
	}
	return false
}

// areNext: are these the next states of a state, one or none for each nonterminal?
func areNext(g api.Grammar, states int, next []int) bool {
	if len(next) != g.Nons {
		return false
	}
	for _, to := range next {
		if to != none && !isBelow(to, states) {
			return false
		}
	}
	return true
}

// isBelow: is n one of the first count numbers, from 0 on?
func isBelow(n, count int) bool { return 0 <= n && n < count }
