package rex_test

import (
	"fmt"
	"math/rand"
	"strings"

	"pushmill/api"
)

// What follows makes trees, otherwise than the program does.

func none() api.Rex            { return api.Rex{Kind: 1} }
func empty() api.Rex           { return api.Rex{Kind: 2} }
func cat(a, b api.Rex) api.Rex { return api.Rex{Kind: 4, Kids: []api.Rex{a, b}} }
func alt(a, b api.Rex) api.Rex { return api.Rex{Kind: 5, Kids: []api.Rex{a, b}} }
func star(a api.Rex) api.Rex   { return api.Rex{Kind: 6, Kids: []api.Rex{a}} }

// set is a class, told byte by byte.
type set [256]bool

// bytesWhere is an RByte of the bytes of which in holds.
func bytesWhere(in func(b int) bool) api.Rex {
	r := api.Rex{Kind: 3}
	for b := range 256 {
		if in(b) {
			r.Class[b/64] += 1 << (b % 64)
		}
	}
	return r
}

// of is an RByte of a text's bytes.
func of(text string) api.Rex {
	return bytesWhere(func(b int) bool { return strings.IndexByte(text, byte(b)) >= 0 })
}

// but is an RByte of all other bytes.
func but(text string) api.Rex {
	return bytesWhere(func(b int) bool { return strings.IndexByte(text, byte(b)) < 0 })
}

// run is an RByte of the bytes from lo to hi.
func run(lo, hi int) api.Rex {
	return bytesWhere(func(b int) bool { return lo <= b && b <= hi })
}

// read is a class as a set.
func read(c api.Class) set {
	var s set
	for b := range s {
		s[b] = c[b/64]/(1<<(b%64))%2 == 1
	}
	return s
}

// cats is trees, one behind the other, the first two together first.
func cats(first api.Rex, others ...api.Rex) api.Rex {
	for _, r := range others {
		first = cat(first, r)
	}
	return first
}

// stars is r within so many stars.
func stars(n int, r api.Rex) api.Rex {
	for range n {
		r = star(r)
	}
	return r
}

// full is a tree of so many levels, all of them alternatives but for the last.
func full(levels int, leaf api.Rex) api.Rex {
	if levels == 1 {
		return leaf
	}
	return alt(full(levels-1, leaf), full(levels-1, leaf))
}

// size is how many nodes r has.
func size(r api.Rex) int {
	n := 1
	for _, kid := range r.Kids {
		n += size(kid)
	}
	return n
}

// same: are these one tree? Lists of none may be nil or not.
func same(a, b api.Rex) bool {
	if a.Kind != b.Kind || a.Class != b.Class || len(a.Kids) != len(b.Kids) {
		return false
	}
	for i := range a.Kids {
		if !same(a.Kids[i], b.Kids[i]) {
			return false
		}
	}
	return true
}

// show is a tree for a message, cut off where it is long.
func show(r api.Rex) string {
	s := shown(r, 40)
	return s[:min(len(s), 300)]
}

// shown is a tree that may be a wrong one, and without an end: so it goes only so deep.
func shown(r api.Rex, deep int) string {
	if deep == 0 {
		return ".."
	}
	s := fmt.Sprint(r.Kind)
	if r.Class != (api.Class{}) {
		s += fmt.Sprintf("%x", [4]uint64(r.Class))
	}
	for _, kid := range r.Kids[:min(len(r.Kids), 3)] {
		s += "(" + shown(kid, deep-1) + ")"
	}
	return s
}

// treesUpTo has all trees of up to n nodes, whose leaves are some of leaves: by how many nodes they have.
func treesUpTo(n int, leaves ...api.Rex) [][]api.Rex {
	all := make([][]api.Rex, n+1)
	all[1] = leaves
	for nodes := 2; nodes <= n; nodes++ {
		for _, kid := range all[nodes-1] {
			all[nodes] = append(all[nodes], star(kid))
		}
		for left := 1; left < nodes-1; left++ {
			for _, a := range all[left] {
				for _, b := range all[nodes-1-left] {
					all[nodes] = append(all[nodes], cat(a, b), alt(a, b))
				}
			}
		}
	}
	return all
}

// wildLeaf is an odd leaf: mostly a class, of one byte, a run, a few, or many.
func wildLeaf(rng *rand.Rand) api.Rex {
	lo, n := rng.Intn(256), rng.Intn(100)
	switch rng.Intn(12) {
	case 0:
		return none()
	case 1:
		return empty()
	case 2:
		return but("\n")
	case 3:
		return run(lo, min(lo+n, 255))
	case 4:
		return bytesWhere(func(b int) bool { return b < lo || b > lo+n || b == 0 })
	case 5:
		return bytesWhere(func(b int) bool { return b == lo || rng.Intn(2) == 0 })
	case 6:
		return run(lo, lo)
	}
	return of("abc-]\\"[rng.Intn(6):])
}

// wildTree has so many nodes or some less, of odd kinds and leaves.
func wildTree(rng *rand.Rand, nodes int) api.Rex {
	switch {
	case nodes < 2:
		return wildLeaf(rng)
	case nodes == 2 || rng.Intn(4) == 0:
		return star(wildTree(rng, nodes-1))
	}
	left := 1 + rng.Intn(nodes-2)
	a, b := wildTree(rng, left), wildTree(rng, nodes-1-left)
	if rng.Intn(2) == 0 {
		return cat(a, b)
	}
	return alt(a, b)
}

// textsUpTo has all texts of up to n of the bytes of alphabet.
func textsUpTo(n int, alphabet string) []string {
	all := []string{""}
	for from := 0; n > 0; n-- {
		upTo := len(all)
		for _, s := range all[from:upTo] {
			for i := range len(alphabet) {
				all = append(all, s+alphabet[i:i+1])
			}
		}
		from = upTo
	}
	return all
}
