package small_test

import (
	"math"
	"math/rand"
	"slices"
	"testing"

	"pushmill/api"
	"pushmill/small"
)

// packs: does Pack answer want of d, does Check let it pass, and does Unpack answer d again?
func packs(t *testing.T, d api.Dfa, want api.Packed) {
	t.Helper()
	p, err := small.Pack(d)
	if err != api.OK || !samePacked(p, want) {
		t.Errorf("Pack(%s) = %s, %d, not %s", brief(d), show(p), err, show(want))
	}
	checks(t, p, api.OK)
	unpacks(t, p, d)
}

// unpacks: does Unpack answer want of p?
func unpacks(t *testing.T, p api.Packed, want api.Dfa) {
	t.Helper()
	if d, err := small.Unpack(p); err != api.OK || !same(d, want) {
		t.Errorf("Unpack(%s) = %s, %d, not %s", show(p), brief(d), err, brief(want))
	}
}

// checks: does Check answer want, and does Unpack with it?
func checks(t *testing.T, p api.Packed, want api.Errno) {
	t.Helper()
	if err := small.Check(p); err != want {
		t.Errorf("Check(%s) = %d, not %d", show(p), err, want)
	}
	d, err := small.Unpack(p)
	if err != want || want != api.OK && (d.Rows != nil || d.Tags != nil) {
		t.Errorf("Unpack(%s) = %s, %d, not %d", show(p), brief(d), err, want)
	}
}

// packed has columns as lists of the numbers of all states, and bytes that do not have the first one.
func packed(tags []int, of map[byte]uint8, columns ...[]int) api.Packed {
	p := api.Packed{Next: make([][]int, len(tags)), Tags: tags}
	for b, c := range of {
		p.Of[b] = c
	}
	for _, l := range columns {
		for state, to := range l {
			p.Next[state] = append(p.Next[state], to)
		}
	}
	return p
}

func TestP22Examples(t *testing.T) {
	d := built([]int{-1, 0}, way{0, "a", 1}, way{1, "b", 1})
	packs(t, d, packed([]int{-1, 0}, map[byte]uint8{'a': 1, 'b': 2}, []int{-1, -1}, []int{1, -1}, []int{-1, 1}))
	d = built([]int{-1, 0}, way{0, "ab", 1}, way{1, "ba", 0})
	packs(t, d, packed([]int{-1, 0}, map[byte]uint8{'a': 1, 'b': 1}, []int{-1, -1}, []int{1, 0}))
	d = built([]int{5, -1, 19}, way{0, "xz", 1}, way{1, "y", 2}, way{2, "x\x80", 0})
	packs(t, d, packed([]int{5, -1, 19}, map[byte]uint8{'x': 1, 'y': 2, 'z': 3, 0x80: 4},
		[]int{-1, -1, -1}, []int{1, -1, 0}, []int{-1, 2, -1}, []int{1, -1, -1}, []int{-1, -1, 0}))
}

func TestP22OneColumn(t *testing.T) {
	for n := 1; n <= 200; n++ {
		stays, goes := api.Packed{Tags: idle(n).Tags}, api.Packed{Tags: make([]int, n)}
		for state := range n {
			stays.Next = append(stays.Next, []int{-1})
			goes.Next = append(goes.Next, []int{(state + 1) % n})
		}
		packs(t, idle(n), stays)
		packs(t, ring(make([]int, n)...), goes)
	}
}

// Columns are numbered by their least bytes, whatever is in them.
func TestP22NumberedByTheLeastByte(t *testing.T) {
	d := idle(3)
	for b := range 256 {
		d.Rows[0][b] = []int16{2, -1, 1, 0}[b%4]
	}
	p := api.Packed{Next: [][]int{{2, -1, 1, 0}, {-1, -1, -1, -1}, {-1, -1, -1, -1}}, Tags: d.Tags}
	for b := range 256 {
		p.Of[b] = uint8(b % 4)
	}
	packs(t, d, p)
	for first := range 256 { // two columns, the second one beginning at each byte
		d = built([]int{-1}, way{0, every()[first:], 0})
		p = api.Packed{Next: [][]int{{-1, 0}}, Tags: d.Tags}
		if first == 0 {
			p.Next[0] = []int{0}
		}
		for b := max(first, 1); b < 256 && first > 0; b++ {
			p.Of[b] = 1
		}
		packs(t, d, p)
	}
}

// As many columns as there are bytes.
func TestP22AColumnForEachByte(t *testing.T) {
	rng := rand.New(rand.NewSource(7))
	for _, n := range []int{2, 16, 199, 200} {
		d := idle(n)
		for b := range 256 { // what they do in the last two states is enough, of 16 states or more
			d.Rows[n-1][b], d.Rows[n-2][b] = int16(b%16%n), int16(b/16%n)
		}
		packs(t, d, plainPack(d))
		if p, _ := small.Pack(d); n >= 16 && (len(p.Next[0]) != 256 || p.Of[255] != 255 || p.Of[0] != 0) {
			t.Errorf("there are %d columns", len(p.Next[0]))
		}
	}
	order := rng.Perm(256)
	d := idle(200)
	for b := range 256 {
		d.Rows[100][b], d.Rows[101][b] = int16(order[b]%128), int16(order[b]/128)
	}
	p := plainPack(d)
	if len(p.Next[101]) != 256 || p.Next[101][77] != order[77]/128 {
		t.Errorf("read as %s", show(p))
	}
	packs(t, d, p)
}

// Two bytes that differ in one state have two columns, whichever state it is.
func TestP22EachStateCounts(t *testing.T) {
	for n := range 201 {
		for _, state := range []int{0, n / 2, n - 1} {
			if n == 0 || n < 200 && n%20 > 0 {
				continue
			}
			d := idle(n)
			d.Rows[state]['q'] = int16(n - 1)
			p, _ := small.Pack(d)
			if p.Of['q'] != 1 || len(p.Next[state]) != 2 || p.Next[state][1] != n-1 {
				t.Errorf("of %d states, in state %d: %s", n, state, show(p))
			}
		}
	}
	for state := range 200 {
		d := ring(make([]int, 200)...)
		d.Rows[state][255] = -1
		packs(t, d, plainPack(d))
		if p, _ := small.Pack(d); p.Of[255] != 1 || p.Of[254] != 0 || p.Next[state][1] != -1 {
			t.Errorf("in state %d: %s", state, show(p))
		}
	}
}

func TestP22AllOfFewStates(t *testing.T) {
	for n := 1; n <= 3; n++ {
		ofFewStates(n, -1, func(d api.Dfa) { packs(t, d, plainPack(d)) })
	}
}

func TestP22Sampled(t *testing.T) {
	rng := rand.New(rand.NewSource(8))
	columns := map[int]int{}
	for range 400 {
		d := plainDfa(rng, 1+rng.Intn(20), 2, 19, 1+rng.Intn(256))
		if rng.Intn(10) == 0 {
			d = wildDfa(rng, 1+rng.Intn(200), 2, 19)
		}
		p := plainPack(d)
		packs(t, d, p)
		columns[len(p.Next[0])]++
	}
	if len(columns) < 80 {
		t.Errorf("so many columns: %v", columns)
	}
}

func TestP22PackOfWrongAutomata(t *testing.T) {
	for _, w := range wrongDfas() {
		if p, err := small.Pack(w.d); err != w.err || p.Next != nil || p.Tags != nil || p.Of != [256]uint8{} {
			t.Errorf("Pack(%s) = %s, %d, not %d alone", brief(w.d), show(p), err, w.err)
		}
	}
}

// What is laid by hand may have columns nobody has, and columns that are alike.
func TestP22MoreColumnsThanNeeded(t *testing.T) {
	p := packed([]int{-1, 3}, map[byte]uint8{'a': 3, 'b': 1}, []int{-1, -1}, []int{0, 1}, []int{1, 1}, []int{0, 1}, []int{-1, 0})
	d := built([]int{-1, 3}, way{0, "ab", 0}, way{1, "ab", 1})
	checks(t, p, api.OK)
	unpacks(t, p, d)
	packs(t, d, packed([]int{-1, 3}, map[byte]uint8{'a': 1, 'b': 1}, []int{-1, -1}, []int{0, 1}))
	for n := 1; n <= 256; n++ { // one byte has the last column, or none has any but the first
		p := api.Packed{Next: [][]int{make([]int, n)}, Tags: []int{0}}
		unpacks(t, p, ring(0))
		p.Next[0][n-1] = -1
		p.Of['a'] = uint8(n - 1)
		d := ring(0)
		d.Rows[0]['a'] = -1
		if n == 1 {
			d = built([]int{0})
		}
		unpacks(t, p, d)
	}
}

func TestP22UnpackSampled(t *testing.T) {
	rng := rand.New(rand.NewSource(9))
	for range 600 {
		p := plainPacked(rng, 1+rng.Intn(200), 1+rng.Intn(256))
		if rng.Intn(2) == 0 {
			p = plainPacked(rng, 1+rng.Intn(4), 1+rng.Intn(5))
		}
		d := idle(len(p.Next))
		d.Tags = p.Tags
		for state, l := range p.Next {
			for b := range 256 {
				d.Rows[state][b] = int16(l[int(p.Of[b])])
			}
		}
		checks(t, p, api.OK)
		unpacks(t, p, d)
		if again, err := small.Pack(d); err != api.OK || !samePacked(again, plainPack(d)) {
			t.Errorf("Pack(%s) = %s, %d", brief(d), show(again), err)
		}
	}
}

// wide is right, with so many states and columns; a byte has the column of its number, or the last one.
func wide(n, columns int) api.Packed {
	p := api.Packed{Next: make([][]int, n), Tags: make([]int, n)}
	for state := range n {
		p.Next[state] = make([]int, columns)
	}
	for b := range 256 {
		p.Of[b] = uint8(min(b, columns-1))
	}
	return p
}

func TestP22HowManyStates(t *testing.T) {
	checks(t, api.Packed{}, api.ErrArg)
	checks(t, api.Packed{Next: [][]int{}, Tags: []int{}}, api.ErrArg)
	checks(t, api.Packed{Tags: []int{0}}, api.ErrArg)
	for n := 1; n <= 200; n++ {
		checks(t, wide(n, 3), api.OK)
	}
	for _, n := range []int{201, 202, 255, 256, 257, 1000, 1 << 16} {
		checks(t, wide(n, 1), api.ErrLarge)
		checks(t, api.Packed{Next: make([][]int, n)}, api.ErrLarge)
	}
	counts := []int{0, 1, 2, 3, 20, 199, 200, 201, 202, 1000}
	for _, n := range counts {
		for _, tags := range counts {
			want := api.ErrArg
			switch {
			case n > 200:
				want = api.ErrLarge
			case n == tags && n > 0:
				want = api.OK
			}
			checks(t, api.Packed{Next: wide(n, 1).Next, Tags: make([]int, tags)}, want)
		}
	}
}

func TestP22HowManyColumns(t *testing.T) {
	for _, n := range []int{1, 2, 3, 200} {
		for columns := 1; columns <= 256; columns++ {
			checks(t, wide(n, columns), api.OK)
		}
		for _, columns := range []int{257, 258, 300, 511, 512, 513, 1 << 16} {
			checks(t, wide(n, columns), api.ErrArg)
		}
		none := wide(n, 1)
		for state := range n {
			none.Next[state] = nil
		}
		checks(t, none, api.ErrArg)
	}
}

// Each state has as many columns as the others.
func TestP22ColumnsOfEachState(t *testing.T) {
	for _, n := range []int{2, 3, 200} {
		for _, columns := range []int{1, 2, 3, 255, 256} {
			for _, state := range []int{0, 1, n / 2, n - 1} {
				for _, other := range []int{0, 1, columns - 1, columns, columns + 1, 256, 257} {
					p := wide(n, columns)
					p.Next[state] = make([]int, other)
					want := api.ErrArg
					if other == columns {
						want = api.OK
					}
					checks(t, p, want)
					p.Of = [256]uint8{}
					checks(t, p, want)
				}
			}
		}
	}
}

func TestP22BytesWithoutAColumn(t *testing.T) {
	for _, columns := range []int{1, 2, 3, 254, 255} {
		for b := range 256 {
			for _, c := range []int{columns, columns + 1, 254, 255} {
				p := wide(2, columns)
				p.Of = [256]uint8{}
				p.Of[b] = uint8(c)
				want := api.OK
				if c >= columns {
					want = api.ErrArg
				}
				if c < 256 {
					checks(t, p, want)
				}
			}
			p := wide(2, columns)
			p.Of[b] = uint8(columns - 1)
			checks(t, p, api.OK)
		}
	}
	for b := range 256 { // of 256 columns each byte has one
		p := wide(1, 256)
		p.Of[b] = 255
		checks(t, p, api.OK)
	}
}

func TestP22NumbersOutOfBounds(t *testing.T) {
	for _, n := range []int{1, 2, 3, 20, 200} {
		for _, columns := range []int{1, 2, 5, 256} {
			for _, state := range []int{0, n / 2, n - 1} {
				for _, c := range []int{0, columns / 2, columns - 1} {
					for _, used := range []bool{true, false} {
						p := wide(n, columns)
						if !used {
							p.Of = [256]uint8{}
						}
						for _, number := range []int{math.MinInt, -1 << 32, -1 << 16, -256, -3, -2, n, n + 1, 256, 1 << 15, 1 << 16, 1<<16 - 1, 1 << 32, math.MaxInt} {
							p.Next[state][c] = number
							checks(t, p, api.ErrArg)
						}
						for _, number := range []int{-1, 0, n / 2, n - 1} {
							p.Next[state][c] = number
							checks(t, p, api.OK)
						}
					}
				}
			}
		}
	}
}

func TestP22TagsOutOfBounds(t *testing.T) {
	for _, n := range []int{1, 2, 3, 200} {
		for _, state := range []int{0, n / 2, n - 1} {
			p := wide(n, 2)
			for tag := -1; tag <= 19; tag++ {
				p.Tags[state] = tag
				checks(t, p, api.OK)
			}
			for _, tag := range []int{math.MinInt, -1 << 32, -20, -2, 20, 21, 199, 200, 255, 256, 1 << 16, 1 << 32, math.MaxInt} {
				p.Tags[state] = tag
				checks(t, p, api.ErrArg)
			}
		}
	}
}

// packedFaults has what makes a Packed of some states and columns a wrong one.
func packedFaults() []func(p *api.Packed) {
	return []func(p *api.Packed){
		func(p *api.Packed) { p.Tags = p.Tags[1:] },
		func(p *api.Packed) { p.Tags = append(p.Tags, 0) },
		func(p *api.Packed) { p.Tags = nil },
		func(p *api.Packed) { p.Tags[0] = -2 },
		func(p *api.Packed) { p.Tags[len(p.Tags)-1] = 20 },
		func(p *api.Packed) { p.Next[0] = nil },
		func(p *api.Packed) { p.Next[len(p.Next)-1] = make([]int, 257) },
		func(p *api.Packed) { p.Next[0][0] = -2 },
		func(p *api.Packed) { p.Next[len(p.Next)-1][len(p.Next[0])-1] = len(p.Next) },
		func(p *api.Packed) { p.Of[0] = 255 },
		func(p *api.Packed) { p.Of[255] = uint8(len(p.Next[0])) },
	}
}

func TestP22TooManyStatesIsLookedAtFirst(t *testing.T) {
	for _, n := range []int{1, 2, 199, 200, 201, 202} {
		for i, fault := range packedFaults() {
			p := wide(n, 4)
			fault(&p)
			want := api.ErrArg
			if n > 200 {
				want = api.ErrLarge
			}
			if plainCheck(p) != want {
				t.Fatalf("fault %d of %d states is read as %d", i, n, plainCheck(p))
			}
			checks(t, p, want)
		}
	}
}

func TestP22CheckOfSampled(t *testing.T) {
	rng := rand.New(rand.NewSource(10))
	counts := map[api.Errno]int{}
	for range 2000 {
		p := plainPacked(rng, []int{1, 2, 3, 20, 200, 201, 210}[rng.Intn(7)], 1+rng.Intn(100))
		if l := packedFaults(); rng.Intn(2) == 0 {
			l[rng.Intn(len(l))](&p)
		}
		if rng.Intn(8) == 0 {
			p.Tags = slices.Repeat([]int{-1}, len(p.Next)+rng.Intn(3)-1)
		}
		want := plainCheck(p)
		counts[want]++
		checks(t, p, want)
	}
	if counts[api.OK] < 300 || counts[api.ErrArg] < 300 || counts[api.ErrLarge] < 300 {
		t.Errorf("told: %v", counts)
	}
}
