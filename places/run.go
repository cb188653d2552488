package places

import (
	"pushmill/api"
	"pushmill/class"
)

// Check tells what is wrong with p: P17.
func Check(p api.Posn) api.Errno {
	count, rules := len(p.Classes), len(p.Empty)
	switch {
	case len(p.Rules) != count || len(p.Follow) != count || len(p.Last) != count:
		return api.ErrArg
	case rules == 0 || rules > api.MaxRules:
		return api.ErrArg
	case !areRules(p.Rules, rules) || !arePlaces(p.First, count):
		return api.ErrArg
	}
	for _, l := range p.Follow {
		if !arePlaces(l, count) {
			return api.ErrArg
		}
	}
	if count > api.MaxPlaces {
		return api.ErrLarge
	}
	return api.OK
}

// areRules: is each of l the number of one of so many rules?
func areRules(l []int, rules int) bool {
	for _, rule := range l {
		if rule < 0 || rule >= rules {
			return false
		}
	}
	return true
}

// arePlaces: does l rise, and has it none but numbers of so many places?
func arePlaces(l []int, count int) bool {
	last := -1
	for _, place := range l {
		if place <= last || place >= count {
			return false
		}
		last = place
	}
	return true
}

// Run tells the places at which one may be behind s: P17.
func Run(p api.Posn, s string) ([]int, api.Errno) {
	if err := checkBoth(p, s); err != api.OK {
		return nil, err
	}
	return run(p, s), api.OK
}

// Rules tells the rules that are done behind s: P17.
func Rules(p api.Posn, s string) ([]int, api.Errno) {
	if err := checkBoth(p, s); err != api.OK {
		return nil, err
	}
	if s == "" {
		return marked(p.Empty), api.OK
	}
	var done [api.MaxRules]bool
	for _, place := range run(p, s) {
		if p.Last[place] {
			done[p.Rules[place]] = true
		}
	}
	return marked(done[:]), api.OK
}

// checkBoth tells what is wrong with p, or else with s.
func checkBoth(p api.Posn, s string) api.Errno {
	if err := Check(p); err != api.OK {
		return err
	}
	if len(s) > api.MaxMatch {
		return api.ErrLarge
	}
	return api.OK
}

// run goes through s with a p and an s that are checked.
func run(p api.Posn, s string) []int {
	if s == "" {
		return nil
	}
	now := having(p, p.First, s[0])
	for i := 1; i < len(s); i++ {
		now = having(p, behind(p, now), s[i])
	}
	return now
}

// having has those of l whose class has b.
func having(p api.Posn, l []int, b byte) []int {
	var in []int
	for _, place := range l {
		if class.Has(p.Classes[place], b) {
			in = append(in, place)
		}
	}
	return in
}

// behind has the places that may come behind one of l. They are marked first, as many lists may have the same ones.
func behind(p api.Posn, l []int) []int {
	var next [api.MaxPlaces]bool
	for _, place := range l {
		for _, n := range p.Follow[place] {
			next[n] = true
		}
	}
	return marked(next[:])
}

// marked has the numbers at which l is true, rising.
func marked(l []bool) []int {
	var numbers []int
	for i, is := range l {
		if is {
			numbers = append(numbers, i)
		}
	}
	return numbers
}
