package items

import (
	"slices"

	"pushmill/api"
	"pushmill/facts"
)

// none stands in a row where a symbol leads nowhere.
const none = -1

// All has the states of the items of g, and where each symbol leads from them: P36.
func All(g api.Grammar) (api.Auto, api.Errno) {
	f, err := facts.Of(g)
	if err != api.OK {
		return api.Auto{}, err
	}
	m := maker{g: g, f: f}
	m.number([]api.Item{{Prod: whole(g), Look: g.Terms}})
	for len(m.auto.Next) < len(m.auto.States) && len(m.auto.States) <= api.MaxStates {
		m.auto.Next = append(m.auto.Next, m.row(m.auto.States[len(m.auto.Next)]))
	}
	if len(m.auto.States) > api.MaxStates {
		return api.Auto{}, api.ErrStates
	}
	return m.auto, api.OK
}

// maker has the states that have been come to, and the rows of those that have been gone through.
type maker struct {
	g       api.Grammar
	f       api.Facts
	kernels [][]api.Item // of each state: the items that it is Closed of
	auto    api.Auto
}

// row is where each terminal, then each nonterminal leads from a state.
func (m *maker) row(state []api.Item) []int {
	r := make([]int, 0, m.g.Terms+m.g.Nons)
	for n := range m.g.Terms {
		r = append(r, m.number(moved(m.g, state, api.Sym{Kind: api.Term, N: n})))
	}
	for n := range m.g.Nons {
		r = append(r, m.number(moved(m.g, state, api.Sym{Kind: api.Non, N: n})))
	}
	return r
}

// number is that of the state which is Closed of kernel, a new one if nothing has led to it yet. Kernels tell states
// apart: beside its kernel a state has only items of which no symbol has been had, and in a kernel none is such (but the
// first one's, the WHOLE, to which nothing leads back). And they rise, as the states do that they were moved from.
func (m *maker) number(kernel []api.Item) int {
	if len(kernel) == 0 {
		return none
	}
	for n, known := range m.kernels {
		if slices.Equal(known, kernel) {
			return n
		}
	}
	m.kernels = append(m.kernels, kernel)
	m.auto.States = append(m.auto.States, closed(m.g, m.f, kernel))
	return len(m.kernels) - 1
}
