package small

import "pushmill/api"

// row of a state: the kinds that its bytes lead to, and behind them its tag.
type row [byteCount + 1]int16

// kindsOf tells the kind of each state: two are of one kind, if they have the same tag of every text that goes on from
// there. Of those that have no tag of any text the kind is none, as it is where one is nowhere.
func kindsOf(d api.Dfa) []int16 {
	kinds := make([]int16, len(d.Rows))
	for state := range kinds {
		kinds[state] = none
	}
	for count, before := 1, 0; count > before; {
		before = count
		kinds, count = refined(d, kinds)
	}
	return kinds
}

// refined tells states from one another by their tags, and by the kinds that their bytes lead to, and how many kinds
// there are then, none included. Kinds that were told apart by shorter texts stay so: once no kind is new, all are told.
func refined(d api.Dfa, kinds []int16) ([]int16, int) {
	numbers := map[row]int16{nowhere(): none}
	finer := make([]int16, len(kinds))
	for state := range finer {
		r := rowOf(d, kinds, state)
		n, known := numbers[r]
		if !known {
			n = int16(len(numbers) - 1) // none is one of them
			numbers[r] = n
		}
		finer[state] = n
	}
	return finer, len(numbers)
}

// nowhere is the row of one who is nowhere: no byte leads back, and there is no tag.
func nowhere() row {
	var r row
	for i := range r {
		r[i] = none
	}
	return r
}

// rowOf is the row of a state.
func rowOf(d api.Dfa, kinds []int16, state int) row {
	var r row
	for b, to := range d.Rows[state] {
		r[b] = kindOf(kinds, to)
	}
	r[byteCount] = int16(d.Tags[state])
	return r
}

// kindOf is the kind of a state, or of none.
func kindOf(kinds []int16, state int16) int16 {
	if state == none {
		return none
	}
	return kinds[state]
}
