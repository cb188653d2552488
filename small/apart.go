package small

import (
	"slices"

	"pushmill/api"
	"pushmill/dfa"
)

// Apart tells the first text of which a and b have different tags, and whether there is one: P21.
func Apart(a, b api.Dfa) (string, bool, api.Errno) {
	if err := dfa.Check(a); err != api.OK {
		return "", false, err
	}
	if err := dfa.Check(b); err != api.OK {
		return "", false, err
	}
	w := newWalk(a, b)
	for at := 0; at < len(w.stops); at++ {
		s := w.stops[at]
		if tagOf(a, s.a) != tagOf(b, s.b) {
			return w.text(at), true, api.OK
		}
		for by := range byteCount {
			w.come(stop{behind(a, s.a, by), behind(b, s.b, by), at, byte(by)})
		}
	}
	return "", false, api.OK
}

// stop of a walk: the states of both automata, and from which stop, by which byte, they were come to.
type stop struct {
	a, b int16
	from int
	by   byte
}

// walk through two automata at once. Its stops stand as the texts that lead to them do: short ones ahead of long ones,
// and those of one length from the least one on. So the first stop with different tags has the text that is asked for.
type walk struct {
	stops []stop
	been  [][]bool // of each state of a, and of each of b, none being the first one of both
}

// newWalk has come to the beginning of both.
func newWalk(a, b api.Dfa) *walk {
	w := &walk{been: make([][]bool, len(a.Rows)+1)}
	for i := range w.been {
		w.been[i] = make([]bool, len(b.Rows)+1)
	}
	w.come(stop{})
	return w
}

// come to a stop, unless an earlier text has led to the same states: whatever comes behind these has come behind it.
func (w *walk) come(s stop) {
	if !w.been[s.a+1][s.b+1] {
		w.been[s.a+1][s.b+1] = true
		w.stops = append(w.stops, s)
	}
}

// text that leads to a stop.
func (w *walk) text(at int) string {
	var l []byte
	for ; at > 0; at = w.stops[at].from {
		l = append(l, w.stops[at].by)
	}
	slices.Reverse(l)
	return string(l)
}

// tagOf is the tag of a state, or of none.
func tagOf(d api.Dfa, state int16) int {
	if state == none {
		return none
	}
	return d.Tags[state]
}

// behind is where a byte leads from a state, or from none.
func behind(d api.Dfa, state int16, by int) int16 {
	if state == none {
		return none
	}
	return d.Rows[state][by]
}
