package rex

import (
	"pushmill/api"
	"pushmill/class"
)

// Matches: is all of s a text of r? P13.
func Matches(r api.Rex, s string) (bool, api.Errno) {
	if err := Check(r); err != api.OK {
		return false, err
	}
	if len(s) > api.MaxMatch {
		return false, api.ErrLarge
	}
	var p plan
	p.end = p.lay(step{})
	p.first = p.layRex(r, p.end)
	return p.leads(s), api.OK
}

// plan is the nodes of an expression as steps, each by its number.
type plan struct {
	steps      []step
	first, end int
}

// step goes on to any of next: behind a byte of class, or, if class is empty, where it is.
type step struct {
	class api.Class
	next  []int
}

// lay adds s to the steps.
func (p *plan) lay(s step) int {
	p.steps = append(p.steps, s)
	return len(p.steps) - 1
}

// layRex is where one begins with r, to be at next when a text of it is done.
func (p *plan) layRex(r api.Rex, next int) int {
	switch r.Kind {
	case api.REmpty:
		return next
	case api.RByte:
		return p.lay(step{class: r.Class, next: []int{next}})
	case api.RCat:
		return p.layRex(r.Kids[0], p.layRex(r.Kids[1], next))
	case api.RAlt:
		return p.lay(step{next: []int{p.layRex(r.Kids[0], next), p.layRex(r.Kids[1], next)}})
	case api.RStar:
		star := p.lay(step{})
		kid := p.layRex(r.Kids[0], star) // ahead of the store, as it moves the steps
		p.steps[star].next = []int{next, kid}
		return star
	}
	return p.lay(step{}) // an RNone leads nowhere
}

// spot is a node of a plan, and a place of a text at which one is there.
type spot struct{ node, place int }

// leads: is there a way by all of s from the first step to the end?
func (p *plan) leads(s string) bool {
	// Each spot is gone on from once: so it ends where a star's Kid takes no byte, and soon where many ways meet.
	seen := map[spot]struct{}{}
	work := []spot{{node: p.first}}
	for len(work) > 0 {
		now := work[len(work)-1]
		work = work[:len(work)-1]
		if _, again := seen[now]; again {
			continue
		}
		seen[now] = struct{}{}
		if now == (spot{p.end, len(s)}) {
			return true
		}
		work = append(work, p.behind(now, s)...)
	}
	return false
}

// behind has the spots that come next.
func (p *plan) behind(now spot, s string) []spot {
	here := p.steps[now.node]
	place := now.place
	if here.class != (api.Class{}) {
		if place == len(s) || !class.Has(here.class, s[place]) {
			return nil
		}
		place++
	}
	var l []spot
	for _, next := range here.next {
		l = append(l, spot{next, place})
	}
	return l
}
