package trees

import (
	"slices"

	"pushmill/api"
	"pushmill/cfg"
)

// Down has the events of t from the top: P40.
func Down(g api.Grammar, t api.Tree) ([]api.Event, api.Errno) {
	if err := Check(g, t); err != api.OK {
		return nil, err
	}
	return down(nil, t), api.OK
}

// Up has the events of t from below: P40.
func Up(g api.Grammar, t api.Tree) ([]api.Event, api.Errno) {
	if err := Check(g, t); err != api.OK {
		return nil, err
	}
	return up(nil, t), api.OK
}

// OfDown has the tree whose events from the top are l: P41.
func OfDown(g api.Grammar, l []api.Event) (api.Tree, api.Errno) {
	if err := checkEvents(g, l); err != api.OK {
		return api.Tree{}, err
	}
	// Where productions end tells all of a tree; that they begin where they must is seen when its events are held against l.
	t, ok := built(g, ends(l))
	if !ok || !slices.Equal(down(nil, t), l) {
		return api.Tree{}, api.ErrForm
	}
	return checked(g, t)
}

// OfUp has the tree whose events from below are l: P41.
func OfUp(g api.Grammar, l []api.Event) (api.Tree, api.Errno) {
	if err := checkEvents(g, l); err != api.OK {
		return api.Tree{}, err
	}
	t, ok := built(g, l)
	if !ok {
		return api.Tree{}, api.ErrForm
	}
	return checked(g, t)
}

// checkEvents tells what is wrong with g, or with how many events there are.
func checkEvents(g api.Grammar, l []api.Event) api.Errno {
	if err := cfg.Check(g); err != api.OK {
		return err
	}
	if len(l) > 2*api.MaxNodes {
		return api.ErrLarge
	}
	return api.OK
}

// checked is t, if it is no greater and no deeper than a tree may be.
func checked(g api.Grammar, t api.Tree) (api.Tree, api.Errno) {
	if err := Check(g, t); err != api.OK {
		return api.Tree{}, err
	}
	return t, api.OK
}

// down puts the events of t from the top behind l.
func down(l []api.Event, t api.Tree) []api.Event {
	if t.Prod == leaf {
		return append(l, api.Event{Kind: api.EToken, N: t.Tok})
	}
	l = append(l, api.Event{Kind: api.EOpen, N: t.Prod})
	for _, kid := range t.Kids {
		l = down(l, kid)
	}
	return append(l, api.Event{Kind: api.EClose, N: t.Prod})
}

// up puts the events of t from below behind l.
func up(l []api.Event, t api.Tree) []api.Event {
	if t.Prod == leaf {
		return append(l, api.Event{Kind: api.EToken, N: t.Tok})
	}
	for _, kid := range t.Kids {
		l = up(l, kid)
	}
	return append(l, api.Event{Kind: api.EReduce, N: t.Prod})
}

// ends makes events from the top such from below: without those that open, and with a reduce for each that closes.
func ends(l []api.Event) []api.Event {
	var below []api.Event
	for _, e := range l {
		switch e.Kind {
		case api.EOpen:
		case api.EClose:
			below = append(below, api.Event{Kind: api.EReduce, N: e.N})
		default:
			below = append(below, e)
		}
	}
	return below
}

// built has the tree, however great or deep, whose events from below are l, if there is one.
func built(g api.Grammar, l []api.Event) (api.Tree, bool) {
	var done []api.Tree // those that are no Kids yet
	leaves := 0
	for _, e := range l {
		switch {
		case e.Kind == api.EToken && e.N == leaves:
			done = append(done, api.Tree{Prod: leaf, Tok: leaves})
			leaves++
		case e.Kind == api.EReduce && isProd(g, e.N) && endsWith(g, done, g.Prods[e.N].Body):
			first := len(done) - len(g.Prods[e.N].Body)
			kids := append([]api.Tree(nil), done[first:]...)
			done = append(done[:first], api.Tree{Prod: e.N, Kids: kids})
		default:
			return api.Tree{}, false
		}
	}
	if len(done) != 1 || !isOf(g, done[0].Prod, whole()) {
		return api.Tree{}, false
	}
	return done[0], true
}

// endsWith: do the last of these trees stand for the symbols of body?
func endsWith(g api.Grammar, done []api.Tree, body []api.Sym) bool {
	if len(done) < len(body) {
		return false
	}
	for i, t := range done[len(done)-len(body):] {
		if !isOf(g, t.Prod, body[i]) {
			return false
		}
	}
	return true
}
