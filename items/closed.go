package items

import (
	"cmp"
	"slices"

	"pushmill/api"
	"pushmill/facts"
)

// closed is Closed of items that are right; f are the facts of g.
func closed(g api.Grammar, f api.Facts, l []api.Item) []api.Item {
	b := bag{in: map[api.Item]struct{}{}}
	for _, it := range l {
		b.add(it)
	}
	opened := make([]uint64, g.Nons)
	for i := 0; i < len(b.list); i++ {
		rest := ahead(g, b.list[i])
		if len(rest) == 0 || rest[0].Kind != api.Non {
			continue
		}
		// What a nonterminal has been opened with once is in the bag: only what is new is worth a look.
		non := rest[0].N
		looks := facts.BeginBy(f, rest[1:], uint64(1)<<b.list[i].Look) &^ opened[non]
		opened[non] |= looks
		b.open(g, non, looks)
	}
	slices.SortFunc(b.list, order)
	return b.list
}

// order is that of items: by Prod, then Dot, then Look.
func order(a, b api.Item) int {
	return cmp.Or(cmp.Compare(a.Prod, b.Prod), cmp.Compare(a.Dot, b.Dot), cmp.Compare(a.Look, b.Look))
}

// bag of items, each of them once; list has them as they came.
type bag struct {
	in   map[api.Item]struct{}
	list []api.Item
}

// add puts an item in, if it isn't there.
func (b *bag) add(it api.Item) {
	if _, has := b.in[it]; has {
		return
	}
	b.in[it] = struct{}{}
	b.list = append(b.list, it)
}

// open puts in the productions of a nonterminal, none of their symbols had, with each of these Looks. A Look is its bit
// of the set: so the end is bit Terms here, which is no terminal's.
func (b *bag) open(g api.Grammar, non int, looks uint64) {
	if looks == 0 {
		return
	}
	for n, p := range g.Prods {
		if p.Head != non {
			continue
		}
		for look := range g.Terms + 1 {
			if looks>>look&1 == 1 {
				b.add(api.Item{Prod: n, Look: look})
			}
		}
	}
}
