package dfa

import "pushmill/api"

// Check tells what is wrong with d: P18.
func Check(d api.Dfa) api.Errno {
	switch {
	case len(d.Rows) > api.MaxStates:
		return api.ErrLarge
	case len(d.Rows) == 0 || len(d.Tags) != len(d.Rows):
		return api.ErrArg
	case !areStates(d.Rows) || !areTags(d.Tags):
		return api.ErrArg
	}
	return api.OK
}

// areStates: is each number in these rows none, or the number of one of them?
func areStates(rows []api.Row) bool {
	for _, row := range rows {
		for _, to := range row {
			if to < none || int(to) >= len(rows) {
				return false
			}
		}
	}
	return true
}

// areTags: is each of l none, or a number that a rule may have?
func areTags(l []int) bool {
	for _, tag := range l {
		if tag < none || tag >= api.MaxRules {
			return false
		}
	}
	return true
}

// Run tells the state behind s: P18.
func Run(d api.Dfa, s string) (int, api.Errno) {
	if err := Check(d); err != api.OK {
		return 0, err
	}
	return run(d, s), api.OK
}

// Tag tells the tag of the state behind s: P18.
func Tag(d api.Dfa, s string) (int, api.Errno) {
	if err := Check(d); err != api.OK {
		return 0, err
	}
	state := run(d, s)
	if state == none {
		return none, api.OK
	}
	return d.Tags[state], api.OK
}

// run goes through s with a d that is checked.
func run(d api.Dfa, s string) int {
	state := 0
	for i := 0; i < len(s) && state != none; i++ {
		state = int(d.Rows[state][s[i]])
	}
	return state
}
