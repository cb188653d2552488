package build

import "pushmill/api"

// none stands in Goto where no state comes.
const none = -1

// way is what goes on while one token comes, or the end: col is its column in the table.
type way struct {
	g      api.Grammar
	t      api.Table
	col    int
	states []int
	seen   int
	events []api.Event
}

// begin is the way on from s, before any act.
func begin(g api.Grammar, t api.Table, s api.Stacker, col int) *way {
	return &way{g: g, t: t, col: col, states: copied(s.States), seen: s.Seen}
}

// goOn does act behind act, till one is no reduce: a shift, or, at the end, to accept. That one counts as an act, too.
func (w *way) goOn() api.Errno {
	for acts := 1; ; acts++ {
		act := w.t.Acts[w.states[len(w.states)-1]][w.col]
		if err := w.do(act); err != api.OK {
			return err
		}
		if acts > api.MaxActs {
			return api.ErrStack
		}
		if act.Kind != api.AReduce {
			return api.OK
		}
	}
}

// do does an act, if it can be done and the states stay within their bound.
func (w *way) do(act api.Act) api.Errno {
	switch act.Kind {
	case api.AShift:
		return w.shift(act.N)
	case api.AReduce:
		return w.reduce(act.N)
	case api.AAccept:
		return api.OK
	}
	return api.ErrToken
}

// shift has the token, which leads to a state.
func (w *way) shift(to int) api.Errno {
	w.events = append(w.events, api.Event{Kind: api.EToken, N: w.seen})
	w.seen++
	return w.enter(to)
}

// reduce puts the state that the Head of production n leads to in the place of those of its Body.
func (w *way) reduce(n int) api.Errno {
	p := w.g.Prods[n]
	left := len(w.states) - len(p.Body)
	if left <= 0 {
		return api.ErrToken
	}
	to := w.t.Goto[w.states[left-1]][p.Head]
	if to == none {
		return api.ErrToken
	}
	w.events = append(w.events, api.Event{Kind: api.EReduce, N: n})
	w.states = w.states[:left]
	return w.enter(to)
}

// enter makes state the present one.
func (w *way) enter(state int) api.Errno {
	w.states = append(w.states, state)
	if len(w.states) > api.MaxStack {
		return api.ErrStack
	}
	return api.OK
}
