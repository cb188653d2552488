package small

import (
	"slices"

	"pushmill/api"
	"pushmill/dfa"
)

// maxColumns: more than there are bytes are ErrArg.
const maxColumns = byteCount

// column of a byte: where it leads from each state.
type column [api.MaxStates]int16

// Pack tells an automaton with one column for all bytes that do the same: P22.
func Pack(d api.Dfa) (api.Packed, api.Errno) {
	if err := dfa.Check(d); err != api.OK {
		return api.Packed{}, err
	}
	p := api.Packed{Next: make([][]int, len(d.Rows)), Tags: slices.Clone(d.Tags)}
	numbers := map[column]uint8{}
	for b := range byteCount {
		c := columnOf(d, b)
		n, known := numbers[c]
		if !known {
			n = uint8(len(numbers))
			numbers[c] = n
			addColumn(p.Next, c)
		}
		p.Of[b] = n
	}
	return p, api.OK
}

// columnOf is the column of a byte.
func columnOf(d api.Dfa, b int) column {
	var c column
	for state, r := range d.Rows {
		c[state] = r[b]
	}
	return c
}

// addColumn lays c behind the columns of next.
func addColumn(next [][]int, c column) {
	for state := range next {
		next[state] = append(next[state], int(c[state]))
	}
}

// Check tells what is wrong with p: P22.
func Check(p api.Packed) api.Errno {
	switch {
	case len(p.Next) > api.MaxStates:
		return api.ErrLarge
	case len(p.Next) == 0 || len(p.Tags) != len(p.Next):
		return api.ErrArg
	case !areColumns(p.Of, p.Next) || !areStates(p.Next) || !areUpTo(p.Tags, api.MaxRules-1):
		return api.ErrArg
	}
	return api.OK
}

// areColumns: has each element of next the same columns, not too many, and each byte one of them?
func areColumns(of [byteCount]uint8, next [][]int) bool {
	count := len(next[0])
	for _, l := range next {
		if len(l) != count {
			return false
		}
	}
	return count <= maxColumns && int(slices.Max(of[:])) < count
}

// areStates: is each number in next none, or that of a state?
func areStates(next [][]int) bool {
	for _, l := range next {
		if !areUpTo(l, len(next)-1) {
			return false
		}
	}
	return true
}

// areUpTo: is each number of l none, or from 0 to most?
func areUpTo(l []int, most int) bool {
	for _, n := range l {
		if n < none || n > most {
			return false
		}
	}
	return true
}

// Unpack tells the automaton in which each byte does what its column does: P22.
func Unpack(p api.Packed) (api.Dfa, api.Errno) {
	if err := Check(p); err != api.OK {
		return api.Dfa{}, err
	}
	d := api.Dfa{Rows: make([]api.Row, len(p.Next)), Tags: slices.Clone(p.Tags)}
	for state, l := range p.Next {
		for b, c := range p.Of {
			d.Rows[state][b] = int16(l[c])
		}
	}
	return d, api.OK
}
