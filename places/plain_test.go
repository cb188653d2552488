package places_test

import (
	"fmt"
	"math/rand"
	"slices"
	"testing"

	"pushmill/api"
	"pushmill/rex"
)

// What follows makes trees, and reads the chapter otherwise than the program does.

func none() api.Rex            { return api.Rex{Kind: api.RNone} }
func empty() api.Rex           { return api.Rex{Kind: api.REmpty} }
func cat(a, b api.Rex) api.Rex { return api.Rex{Kind: api.RCat, Kids: []api.Rex{a, b}} }
func alt(a, b api.Rex) api.Rex { return api.Rex{Kind: api.RAlt, Kids: []api.Rex{a, b}} }
func star(a api.Rex) api.Rex   { return api.Rex{Kind: api.RStar, Kids: []api.Rex{a}} }
func of(text string) api.Rex   { return api.Rex{Kind: api.RByte, Class: bytesOf(text)} }

// bytesOf is the class of a text's bytes.
func bytesOf(text string) api.Class {
	var c api.Class
	for _, b := range []byte(text) {
		c[b/64] |= 1 << (b % 64)
	}
	return c
}

// has: is b in c?
func has(c api.Class, b byte) bool {
	return c[b/64]/(1<<(b%64))%2 == 1
}

// rules reads texts as rules.
func rules(t *testing.T, texts ...string) []api.Rex {
	t.Helper()
	var l []api.Rex
	for _, s := range texts {
		r, at, err := rex.Parse(s)
		if err != api.OK {
			t.Fatalf("%q is wrong at %d: %d", s, at, err)
		}
		l = append(l, r)
	}
	return l
}

// row is so many places, one behind the other, in a tree no deeper than need be.
func row(n int) api.Rex {
	if n == 1 {
		return of("a")
	}
	return cat(row(n/2), row(n-n/2))
}

// treesUpTo has all trees of up to n nodes with those leaves.
func treesUpTo(n int, leaves ...api.Rex) []api.Rex {
	bySize := [][]api.Rex{nil, leaves}
	for size := 2; size <= n; size++ {
		var l []api.Rex
		for _, kid := range bySize[size-1] {
			l = append(l, star(kid))
		}
		for left := 1; left < size-1; left++ {
			for _, a := range bySize[left] {
				for _, b := range bySize[size-1-left] {
					l = append(l, cat(a, b), alt(a, b))
				}
			}
		}
		bySize = append(bySize, l)
	}
	return slices.Concat(bySize...)
}

// wildTree has so many nodes or some less; most of its leaves are classes.
func wildTree(rng *rand.Rand, nodes int) api.Rex {
	switch {
	case nodes < 2 && rng.Intn(9) == 0:
		return none()
	case nodes < 2 && rng.Intn(5) == 0:
		return empty()
	case nodes < 2:
		return of([]string{"a", "b", "ab", "abc", "\x00\x3f\x40\x7f\x80\xbf\xc0\xff", "\xffa"}[rng.Intn(6)])
	case nodes == 2 || rng.Intn(4) == 0:
		return star(wildTree(rng, nodes-1))
	}
	left := 1 + rng.Intn(nodes-2)
	a, b := wildTree(rng, left), wildTree(rng, nodes-1-left)
	if rng.Intn(5) < 3 {
		return cat(a, b)
	}
	return alt(a, b)
}

// wildRules has up to most rules that rex.Check lets pass, of so many nodes at the most.
func wildRules(rng *rand.Rand, most, nodes int) []api.Rex {
	var l []api.Rex
	for range 1 + rng.Intn(most) {
		if r := wildTree(rng, 1+rng.Intn(nodes)); rex.Check(r) == api.OK {
			l = append(l, r)
		}
	}
	if len(l) == 0 {
		return []api.Rex{of("a")}
	}
	return l
}

// textsUpTo has all texts of up to n of the bytes of alphabet.
func textsUpTo(n int, alphabet string) []string {
	all := []string{""}
	longest := all
	for range n {
		var longer []string
		for _, s := range longest {
			for i := range len(alphabet) {
				longer = append(longer, s+alphabet[i:i+1])
			}
		}
		all = append(all, longer...)
		longest = longer
	}
	return all
}

// same: are these the same? Lists of none may be nil or not.
func same(a, b api.Posn) bool {
	return slices.Equal(a.Classes, b.Classes) && slices.Equal(a.Rules, b.Rules) && slices.Equal(a.First, b.First) &&
		slices.EqualFunc(a.Follow, b.Follow, slices.Equal) && slices.Equal(a.Last, b.Last) && slices.Equal(a.Empty, b.Empty)
}

// show is anything for a message, cut off where it is long.
func show(x any) string {
	s := fmt.Sprintf("%+v", x)
	return s[:min(len(s), 600)]
}

// net is rules as nodes with ways that take no byte between them; each place has a node ahead of it and one behind it.
// An RNone has them, too, and so is no way, but is not asked about otherwise.
type net struct {
	ways          [][]int
	ahead, behind []int
	classes       []api.Class
	owner         []int
}

// node adds a node.
func (n *net) node() int {
	n.ways = append(n.ways, nil)
	return len(n.ways) - 1
}

// way adds a way.
func (n *net) way(from, to int) {
	n.ways[from] = append(n.ways[from], to)
}

// add adds r: the answer is where it begins and ends.
func (n *net) add(r api.Rex, rule int) (from, to int) {
	from, to = n.node(), n.node()
	switch r.Kind {
	case api.REmpty:
		n.way(from, to)
	case api.RByte:
		n.ahead, n.behind = append(n.ahead, from), append(n.behind, to)
		n.classes, n.owner = append(n.classes, r.Class), append(n.owner, rule)
	case api.RCat:
		x, xEnd := n.add(r.Kids[0], rule)
		y, yEnd := n.add(r.Kids[1], rule)
		n.way(from, x)
		n.way(xEnd, y)
		n.way(yEnd, to)
	case api.RAlt, api.RStar:
		for _, kid := range r.Kids {
			x, xEnd := n.add(kid, rule)
			n.way(from, x)
			n.way(xEnd, to)
		}
		if r.Kind == api.RStar {
			n.way(from, to)
			n.way(to, from)
		}
	}
	return from, to
}

// reached tells to which nodes ways lead from one.
func (n *net) reached(from int) []bool {
	seen := make([]bool, len(n.ways))
	seen[from] = true
	for work := []int{from}; len(work) > 0; {
		now := work[0]
		work = work[1:]
		for _, next := range n.ways[now] {
			if !seen[next] {
				seen[next] = true
				work = append(work, next)
			}
		}
	}
	return seen
}

// places has the places ahead of which one is where seen holds.
func (n *net) places(seen []bool) []int {
	var l []int
	for place, node := range n.ahead {
		if seen[node] {
			l = append(l, place)
		}
	}
	return l
}

// byNet is what Make should answer of rules that are right: which places come behind which, by ways without a byte.
func byNet(rules []api.Rex) api.Posn {
	var n net
	var p api.Posn
	var ends []int
	for i, r := range rules {
		from, to := n.add(r, i)
		seen := n.reached(from)
		p.First = append(p.First, n.places(seen)...)
		p.Empty = append(p.Empty, seen[to])
		ends = append(ends, to)
	}
	p.Classes, p.Rules = n.classes, n.owner
	for place, rule := range n.owner {
		seen := n.reached(n.behind[place])
		p.Follow = append(p.Follow, n.places(seen))
		p.Last = append(p.Last, seen[ends[rule]])
	}
	return p
}

// ghost stands for an RNone in a walk.
const ghost = "\xff"

// walks has the ways through r, each as a text with a byte for a place; places are counted on from *count. A star goes
// round no more than twice: that is enough to see what may begin, end, and come behind what.
func walks(r api.Rex, count *int) map[string]bool {
	switch r.Kind {
	case api.RNone:
		return map[string]bool{ghost: true}
	case api.REmpty:
		return map[string]bool{"": true}
	case api.RByte:
		*count++
		return map[string]bool{string([]byte{byte(*count - 1)}): true}
	case api.RStar:
		once := walks(r.Kids[0], count)
		return union(map[string]bool{"": true}, once, joined(once, once))
	}
	x := walks(r.Kids[0], count)
	y := walks(r.Kids[1], count)
	if r.Kind == api.RAlt {
		return union(x, y)
	}
	return joined(x, y)
}

// union has the walks of all of l.
func union(l ...map[string]bool) map[string]bool {
	all := map[string]bool{}
	for _, some := range l {
		for w := range some {
			all[w] = true
		}
	}
	return all
}

// joined has the walks of x with those of y behind them.
func joined(x, y map[string]bool) map[string]bool {
	all := map[string]bool{}
	for v := range x {
		for w := range y {
			all[v+w] = true
		}
	}
	return all
}

// byWalks is what Make should answer of rules that are right and small, as far as ends and what follows go.
func byWalks(rules []api.Rex) api.Posn {
	var p api.Posn
	var first [256]bool
	var last [256]bool
	var follow [256][256]bool
	count := 0
	for _, r := range rules {
		all := walks(r, &count)
		p.Empty = append(p.Empty, all[""])
		for w := range all {
			if w == "" {
				continue
			}
			first[w[0]], last[w[len(w)-1]] = true, true
			for i := 1; i < len(w); i++ {
				follow[w[i-1]][w[i]] = true
			}
		}
	}
	p.First = numbers(first[:count])
	for place := range count {
		p.Follow = append(p.Follow, numbers(follow[place][:count]))
	}
	p.Last = slices.Clone(last[:count])
	return p
}

// numbers has the numbers at which l holds.
func numbers(l []bool) []int {
	var all []int
	for i, is := range l {
		if is {
			all = append(all, i)
		}
	}
	return all
}

// plainCheck is what Check should answer.
func plainCheck(p api.Posn) api.Errno {
	n := len(p.Classes)
	wrong := n != len(p.Rules) || n != len(p.Follow) || n != len(p.Last) || len(p.Empty) < 1 || len(p.Empty) > 20
	for _, rule := range p.Rules {
		wrong = wrong || rule < 0 || rule > len(p.Empty)-1
	}
	for _, l := range append([][]int{p.First}, p.Follow...) {
		for i, place := range l {
			wrong = wrong || place < 0 || place > n-1 || i > 0 && place <= l[i-1]
		}
	}
	switch {
	case wrong:
		return api.ErrArg
	case n > 200:
		return api.ErrLarge
	}
	return api.OK
}

// mayBe: may one be at that place behind s? It is asked from the end of s on.
func mayBe(p api.Posn, s string, place int) bool {
	if s == "" || !has(p.Classes[place], s[len(s)-1]) {
		return false
	}
	if len(s) == 1 {
		return slices.Contains(p.First, place)
	}
	for before, l := range p.Follow {
		if slices.Contains(l, place) && mayBe(p, s[:len(s)-1], before) {
			return true
		}
	}
	return false
}

// plainRun is what Run should answer of a p that is right, and a short s.
func plainRun(p api.Posn, s string) []int {
	var l []int
	for place := range p.Classes {
		if mayBe(p, s, place) {
			l = append(l, place)
		}
	}
	return l
}

// plainRules is what Rules should answer where Run answers at.
func plainRules(p api.Posn, s string, at []int) []int {
	done := map[int]bool{}
	for rule, is := range p.Empty {
		done[rule] = is && s == ""
	}
	for _, place := range at {
		done[p.Rules[place]] = done[p.Rules[place]] || p.Last[place]
	}
	var l []int
	for rule := range p.Empty {
		if done[rule] {
			l = append(l, rule)
		}
	}
	return l
}
