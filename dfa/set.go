package dfa

import "pushmill/api"

const (
	wordBits = 64
	words    = (api.MaxPlaces + wordBits - 1) / wordBits
)

// set of places: a place is in it, if bit place % 64 of the word place / 64 is 1.
type set [words]uint64

// setOf has the places of l.
func setOf(l []int) set {
	var s set
	for _, place := range l {
		s[place/wordBits] |= 1 << (place % wordBits)
	}
	return s
}

// has: is place in s?
func has(s set, place int) bool { return s[place/wordBits]>>(place%wordBits)&1 == 1 }

// join has the places of s or t.
func join(s, t set) set {
	for i := range s {
		s[i] |= t[i]
	}
	return s
}

// meet has the places of both s and t.
func meet(s, t set) set {
	for i := range s {
		s[i] &= t[i]
	}
	return s
}
