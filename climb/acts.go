package climb

import "pushmill/api"

// none stands in a row where no production may be taken.
const none = -1

// way is what goes on while one token comes, or the end: col is its column in the rows. Each act has one event.
type way struct {
	g      api.Grammar
	rows   [][]int
	col    int
	todo   []api.Todo
	seen   int
	events []api.Event
}

// begin is the way on from c, before any act.
func begin(g api.Grammar, rows [][]int, c api.Climber, col int) *way {
	return &way{g: g, rows: rows, col: col, todo: copied(c.Todo), seen: c.Seen}
}

// token goes on till the token is had, and past the ends behind it, which are certain by then.
func (w *way) token() api.Errno {
	for had := w.seen; w.seen == had || w.isAtClose(); {
		if err := w.act(); err != api.OK {
			return err
		}
	}
	return api.OK
}

// end goes on till nothing is ahead.
func (w *way) end() api.Errno {
	for len(w.todo) > 0 {
		if err := w.act(); err != api.OK {
			return err
		}
	}
	return api.OK
}

// isAtClose: is the end of a production next?
func (w *way) isAtClose() bool {
	return len(w.todo) > 0 && w.todo[len(w.todo)-1].Close
}

// act does the next act, if it can be done and stays within the bounds.
func (w *way) act() api.Errno {
	event, can := w.next()
	if !can {
		return api.ErrToken
	}
	w.events = append(w.events, event)
	w.todo = w.todo[:len(w.todo)-1]
	switch event.Kind {
	case api.EOpen:
		w.open(event.N)
	case api.EToken:
		w.seen++
	}
	if len(w.todo) > api.MaxStack || len(w.events) > api.MaxActs {
		return api.ErrStack
	}
	return api.OK
}

// next is the event of the next act, and whether it can be done. At the end no terminal can: none has the end's column.
func (w *way) next() (api.Event, bool) {
	if len(w.todo) == 0 {
		return api.Event{}, false
	}
	t := w.todo[len(w.todo)-1]
	switch {
	case t.Close:
		return api.Event{Kind: api.EClose, N: t.N}, true
	case t.Sym.Kind == api.Term:
		return api.Event{Kind: api.EToken, N: w.seen}, t.Sym.N == w.col
	}
	n := w.rows[t.Sym.N][w.col]
	return api.Event{Kind: api.EOpen, N: n}, n != none
}

// open puts what production n is made of ahead, its first symbol next.
func (w *way) open(n int) {
	w.todo = append(w.todo, api.Todo{Close: true, N: n})
	body := w.g.Prods[n].Body
	for i := len(body) - 1; i >= 0; i-- {
		w.todo = append(w.todo, api.Todo{Sym: body[i]})
	}
}
