package frame_test

import (
	"encoding/binary"
	"fmt"
	"hash/crc32"
	"math"
	"math/rand"
	"slices"
	"strings"
	"sync"
	"testing"
	"unsafe"

	"pushmill/api"
	"pushmill/frame"
)

// show is x for a message, cut off where it is long.
func show(x any) string {
	s := fmt.Sprintf("%#v", x)
	return s[:min(len(s), 200)]
}

// allBytes is a text of each byte once.
func allBytes() string {
	l := make([]byte, 256)
	for i := range l {
		l[i] = byte(i)
	}
	return string(l)
}

// oddBodies has bodies that a frame may have: none, short, at the edges of a length's bytes, no UTF-8, the longest.
func oddBodies() []string {
	return []string{
		"", "a", "\x00", "\xff\xfe", "\xc3\x28", "日本", "\x03\x07\x00\x00", "line\nline\n",
		strings.Repeat("x", 255), allBytes(), strings.Repeat("\x00", 257), strings.Repeat("\x01", 511), strings.Repeat("\x02", 512),
		strings.Repeat("\xff", api.MaxBody-1), strings.Repeat("y", api.MaxBody),
	}
}

// goodFrames has each kind with each of some numbers and each odd body.
func goodFrames() []api.Frame {
	var l []api.Frame
	for kind := 1; kind <= 9; kind++ {
		for _, who := range []int{0, 1, 7, 127, 128, 254, 255} {
			for _, body := range oddBodies() {
				l = append(l, api.Frame{Kind: kind, Who: who, Body: body})
			}
		}
	}
	return l
}

// plainBytes writes a frame as the chapter words it, whatever its fields are, by the library's own sum.
func plainBytes(kind, who byte, length uint16, body string) string {
	l := []byte{kind, who}
	l = binary.LittleEndian.AppendUint16(l, length)
	l = append(l, body...)
	return string(binary.LittleEndian.AppendUint32(l, crc32.ChecksumIEEE(l)))
}

// whole is a frame that is written plainly.
func whole(f api.Frame) string {
	return plainBytes(byte(f.Kind), byte(f.Who), uint16(len(f.Body)), f.Body)
}

// joined is frames, one behind the other.
func joined(l []api.Frame) string {
	var b strings.Builder
	for _, f := range l {
		b.WriteString(whole(f))
	}
	return b.String()
}

// fewFrames has some frames of different sizes, all of them short.
func fewFrames() []api.Frame {
	return []api.Frame{
		{Kind: api.FOpen, Who: 0, Body: "ab"}, {Kind: api.FEnd, Who: 7}, {Kind: api.FData, Who: 255, Body: "\x00\x01\x00\x00\xff"}, {Kind: api.FOver, Who: 9, Body: "z"},
	}
}

// plainFeed hears a stream as the chapter words it: byte by byte, with what a frame still lacks.
func plainFeed(in api.Inbox, s string) (api.Inbox, []api.Frame, api.Errno) {
	if in.Dead != api.OK {
		return in, nil, api.ErrOver
	}
	var told []api.Frame
	var now []byte
	for _, b := range []byte(in.Rest + s) {
		now = append(now, b)
		err := api.OK
		switch {
		case now[0] < 1 || now[0] > 9:
			err = api.ErrArg
		case len(now) >= 4 && binary.LittleEndian.Uint16(now[2:]) > 1024:
			err = api.ErrLarge
		case len(now) >= 4 && len(now) == 8+int(binary.LittleEndian.Uint16(now[2:])):
			summed := now[:len(now)-4]
			if crc32.ChecksumIEEE(summed) != binary.LittleEndian.Uint32(now[len(summed):]) {
				err = api.ErrSum
				break
			}
			told = append(told, api.Frame{Kind: int(now[0]), Who: int(now[1]), Body: string(summed[4:])})
			now = nil
		}
		if err != api.OK {
			return api.Inbox{Dead: err}, told, err
		}
	}
	return api.Inbox{Rest: string(now)}, told, api.OK
}

// sameFeed fails, if Feed answers otherwise than the chapter's words.
func sameFeed(t *testing.T, in api.Inbox, s string) {
	t.Helper()
	got, told, err := frame.Feed(in, s)
	want, wantTold, wantErr := plainFeed(in, s)
	if got != want || !slices.Equal(told, wantTold) || err != wantErr {
		t.Fatalf("Feed(%s, %.40q) = %s, %s, %d, not %s, %s, %d", show(in), s, show(got), show(told), err, show(want), show(wantTold), wantErr)
	}
}

// feedPieces hears all pieces: the Inbox at the end, all frames, the first error.
func feedPieces(t *testing.T, pieces []string) (api.Inbox, []api.Frame, api.Errno) {
	t.Helper()
	var in api.Inbox
	var all []api.Frame
	first := api.OK
	for _, s := range pieces {
		before := in
		got, told, err := frame.Feed(in, s)
		if first != api.OK && (err != api.ErrOver || len(told) > 0 || got != before) {
			t.Fatalf("behind error %d: %s, %s, %d", first, show(got), show(told), err)
		}
		if first == api.OK {
			first = err
		}
		in, all = got, append(all, told...)
	}
	return in, all, first
}

// samePieces fails, if s in pieces is heard otherwise than s at once.
func samePieces(t *testing.T, s string, pieces []string) {
	t.Helper()
	in, told, err := feedPieces(t, pieces)
	want, wantTold, wantErr := frame.Feed(api.Inbox{}, s)
	if in != want || !slices.Equal(told, wantTold) || err != wantErr {
		t.Fatalf("%.60q in pieces %s: %s, %s, %d, not %s, %s, %d", s, show(pieces), show(in), show(told), err, show(want), show(wantTold), wantErr)
	}
}

// streams has what may come in: frames, frames with something wrong behind or among them, beginnings.
func streams() []string {
	few := joined(fewFrames())
	long := whole(api.Frame{Kind: api.FData, Who: 1, Body: strings.Repeat("\x01\x00", api.MaxBody/2)})
	badSum := few[:len(few)-1] + string([]byte{few[len(few)-1] ^ 1})
	return []string{
		"", "\x00", "\x01", "\x0a", "\x03\x07\x00", few, long, few + long + few, few[1:], long[:len(long)-1],
		few + "\x00" + few, few + "\x0a", few + "\xff\xff\xff\xff", few + "\x09", few + "\x01\x00\x00\x04" + few,
		few + "\x01\x00\x01\x04" + few, "\x09\xff\xff\xff", few + "\x02\x02\xff\xff" + few, badSum, badSum + few, few + badSum + "\x00",
		strings.Repeat("\x01", 12), strings.Repeat("\x04", 1100), strings.Repeat("\x03", 780), allBytes(),
	}
}

// bytePieces is s, byte by byte.
func bytePieces(s string) []string {
	var l []string
	for i := range len(s) {
		l = append(l, s[i:i+1])
	}
	return l
}

func TestP8CheckOfBounds(t *testing.T) {
	for _, kind := range []int{math.MinInt, -1, 0, 1, 2, 3, 4, 5, 6, 7, 8, 9, 10, 255, 256, 257, 1<<32 + 1, math.MaxInt} {
		for _, who := range []int{math.MinInt, -256, -1, 0, 1, 254, 255, 256, 257, 1 << 32, math.MaxInt} {
			for _, size := range []int{0, 1, 1023, 1024, 1025, 65536, 1<<16 + 1} {
				want := api.OK
				if size > 1024 {
					want = api.ErrLarge
				}
				if kind < 1 || kind > 9 || who < 0 || who > 255 {
					want = api.ErrArg
				}
				f := api.Frame{Kind: kind, Who: who, Body: strings.Repeat("y", size)}
				if got := frame.Check(f); got != want {
					t.Errorf("Check(%d, %d, %d bytes) = %d, not %d", kind, who, size, got, want)
				}
				if s, err := frame.Write(f); err != want || (s == "") != (want != api.OK) {
					t.Errorf("Write(%d, %d, %d bytes) = %d bytes, %d, not %d", kind, who, size, len(s), err, want)
				}
			}
		}
	}
}

func TestP8WriteKnown(t *testing.T) {
	known := []struct {
		f    api.Frame
		want string
	}{
		{api.Frame{Kind: api.FEnd, Who: 7}, "\x03\x07\x00\x00"},
		{api.Frame{Kind: api.FData, Who: 3, Body: "ab"}, "\x02\x03\x02\x00ab"},
		{api.Frame{Kind: api.FOver, Who: 255, Body: "\x00"}, "\x09\xff\x01\x00\x00"},
		{api.Frame{Kind: api.FOpen, Who: 0, Body: allBytes()}, "\x01\x00\x00\x01" + allBytes()},
		{api.Frame{Kind: api.FEvents, Who: 128, Body: strings.Repeat("y", 1024)}, "\x08\x80\x00\x04" + strings.Repeat("y", 1024)},
	}
	for _, k := range known {
		got, err := frame.Write(k.f)
		n := crc32.ChecksumIEEE([]byte(k.want))
		want := k.want + string([]byte{byte(n), byte(n >> 8), byte(n >> 16), byte(n >> 24)})
		if got != want || err != api.OK {
			t.Errorf("Write(%s) = %s, %d, not %s", show(k.f), show(got), err, show(want))
		}
	}
	// The sum of 3, 7, 0, 0 as another program (CPython's zlib) works it out.
	if got, _ := frame.Write(api.Frame{Kind: api.FEnd, Who: 7}); got != "\x03\x07\x00\x00\x77\x66\xbe\x36" {
		t.Errorf("FEnd of session 7 = %s", show(got))
	}
}

func TestP8WriteOfGoodFrames(t *testing.T) {
	for _, f := range goodFrames() {
		if err := frame.Check(f); err != api.OK {
			t.Errorf("Check(%s) = %d", show(f), err)
		}
		if got, err := frame.Write(f); got != whole(f) || err != api.OK {
			t.Errorf("Write(%s) = %s, %d", show(f), show(got), err)
		}
	}
	for size := range api.MaxBody + 1 {
		f := api.Frame{Kind: api.FData, Who: 5, Body: strings.Repeat("\x80", size)}
		if got, err := frame.Write(f); got != whole(f) || err != api.OK {
			t.Errorf("Write of %d bytes = %s, %d", size, show(got), err)
		}
	}
}

func TestP9WrittenIsTold(t *testing.T) {
	var stream strings.Builder
	for _, f := range goodFrames() {
		s, err := frame.Write(f)
		if err != api.OK {
			t.Fatalf("Write(%s): %d", show(f), err)
		}
		stream.WriteString(s)
		in, told, err := frame.Feed(api.Inbox{}, s)
		if in != (api.Inbox{}) || !slices.Equal(told, []api.Frame{f}) || err != api.OK {
			t.Errorf("%s: %s, %s, %d", show(f), show(in), show(told), err)
		}
	}
	in, told, err := frame.Feed(api.Inbox{}, stream.String())
	if in != (api.Inbox{}) || !slices.Equal(told, goodFrames()) || err != api.OK {
		t.Errorf("all of them: %s, %d frames, %d", show(in), len(told), err)
	}
}

func TestP9ToldIsWrittenAsItCame(t *testing.T) {
	for _, s := range streams() {
		in, told, err := frame.Feed(api.Inbox{}, s)
		var again strings.Builder
		for _, f := range told {
			written, err := frame.Write(f)
			if err != api.OK {
				t.Errorf("%s is told, and not written: %d", show(f), err)
			}
			again.WriteString(written)
		}
		if !strings.HasPrefix(s, again.String()) || err == api.OK && again.String()+in.Rest != s {
			t.Errorf("%.60q is written as %.60q with %.40q left", s, again.String(), in.Rest)
		}
	}
}

func TestP9EveryBeginningWaits(t *testing.T) {
	for _, f := range fewFrames() {
		s := whole(f)
		for i := range len(s) {
			if in, told, err := frame.Feed(api.Inbox{}, s[:i]); in != (api.Inbox{Rest: s[:i]}) || len(told) > 0 || err != api.OK {
				t.Errorf("%q: %s, %s, %d", s[:i], show(in), show(told), err)
			}
		}
	}
}

func TestP9ErrorsComeAtTheirBytes(t *testing.T) {
	end := whole(api.Frame{Kind: api.FEnd, Who: 7})
	long := plainBytes(api.FData, 1, 1024, strings.Repeat("y", 1024))
	beyond := plainBytes(api.FData, 1, 1025, strings.Repeat("y", 1025))
	flip := func(s string, i int) string { return s[:i] + string([]byte{s[i] ^ 0x80}) + s[i+1:] }
	known := []struct {
		s    string
		at   int // with so many bytes it goes wrong, with fewer it doesn't
		want api.Errno
	}{
		{"\x00", 1, api.ErrArg}, {"\x0a", 1, api.ErrArg}, {"\xff", 1, api.ErrArg}, {"\x00\x00\xff\xff", 1, api.ErrArg},
		{plainBytes(0, 7, 0, ""), 1, api.ErrArg}, {plainBytes(10, 7, 0, ""), 1, api.ErrArg}, {plainBytes(129, 7, 0, ""), 1, api.ErrArg},
		{beyond, 4, api.ErrLarge}, {flip(beyond, 500), 4, api.ErrLarge}, {"\x01\x00\x01\x04", 4, api.ErrLarge}, {"\x09\xff\x00\x05", 4, api.ErrLarge},
		{"\x01\x00\xff\xff\x00\x00", 4, api.ErrLarge}, {"\x01\x00\x00\x80", 4, api.ErrLarge},
		{flip(end, 1), 8, api.ErrSum}, {flip(end, 4), 8, api.ErrSum}, {flip(end, 7), 8, api.ErrSum}, {end[:4] + "\x00\x00\x00\x00", 8, api.ErrSum},
		{end[:4] + string([]byte{end[7], end[6], end[5], end[4]}), 8, api.ErrSum}, {flip(end, 5) + "\x00", 8, api.ErrSum},
		{flip(long, 1), len(long), api.ErrSum}, {flip(long, 4), len(long), api.ErrSum}, {flip(long, 1027), len(long), api.ErrSum}, {flip(long, 1031), len(long), api.ErrSum},
	}
	for _, ahead := range [][]api.Frame{nil, fewFrames()} {
		for _, k := range known {
			s := joined(ahead) + k.s
			from := len(s) - len(k.s)
			for i := from; i <= len(s); i++ {
				want, wantErr := api.Inbox{Rest: s[from:i]}, api.OK
				if i >= from+k.at {
					want, wantErr = api.Inbox{Dead: k.want}, k.want
				}
				if in, told, err := frame.Feed(api.Inbox{}, s[:i]); in != want || !slices.Equal(told, ahead) || err != wantErr {
					t.Fatalf("%d bytes of %.60q: %s, %s, %d, not error %d", i-from, k.s, show(in), show(told), err, wantErr)
				}
			}
		}
	}
}

func TestP9NothingIsToldBehindAnError(t *testing.T) {
	few := fewFrames()
	for i := range few {
		s := joined(few[:i]) + "\x00" + joined(few[i:])
		if in, told, err := frame.Feed(api.Inbox{}, s); in != (api.Inbox{Dead: api.ErrArg}) || !slices.Equal(told, few[:i]) || err != api.ErrArg {
			t.Errorf("byte 0 behind %d frames: %s, %s, %d", i, show(in), show(told), err)
		}
	}
}

func TestP9DeadStaysAsItWas(t *testing.T) {
	end := whole(api.Frame{Kind: api.FEnd, Who: 7})
	for dead := api.Errno(-2); dead <= 20; dead++ {
		for _, rest := range []string{"", "\x03", "\x00", end, strings.Repeat("\xff", 5000)} {
			for _, s := range []string{"", "\x00", end, joined(fewFrames())} {
				in := api.Inbox{Rest: rest, Dead: dead}
				if dead == api.OK {
					sameFeed(t, in, s)
					continue
				}
				if got, told, err := frame.Feed(in, s); got != in || len(told) > 0 || err != api.ErrOver {
					t.Errorf("Feed(%s, %.40q) = %s, %s, %d", show(in), s, show(got), show(told), err)
				}
			}
		}
	}
	for _, dead := range []api.Errno{math.MinInt, 1 << 32, math.MaxInt} {
		if got, told, err := frame.Feed(api.Inbox{Dead: dead}, end); got != (api.Inbox{Dead: dead}) || len(told) > 0 || err != api.ErrOver {
			t.Errorf("Dead %d: %s, %s, %d", dead, show(got), show(told), err)
		}
	}
}

// A Rest is any text, also one that Feed never leaves.
func TestP9RestIsLookedAt(t *testing.T) {
	for _, rest := range streams() {
		for _, s := range streams() {
			sameFeed(t, api.Inbox{Rest: rest}, s)
		}
	}
}

func TestP9EveryHead(t *testing.T) {
	for kind := range 256 {
		for length := range 1 << 16 {
			s := string([]byte{byte(kind), 0, byte(length), byte(length >> 8)})
			want := api.OK
			if kind < 1 || kind > 9 {
				want = api.ErrArg
			} else if length > 1024 {
				want = api.ErrLarge
			}
			wantIn := api.Inbox{Dead: want}
			if want == api.OK {
				wantIn.Rest = s
			}
			if in, told, err := frame.Feed(api.Inbox{}, s); in != wantIn || len(told) > 0 || err != want {
				t.Fatalf("%q: %s, %s, %d, not %d", s, show(in), show(told), err, want)
			}
		}
	}
}

func TestP9EveryWhoIsTold(t *testing.T) {
	for who := range 256 {
		f := api.Frame{Kind: api.FCredit, Who: who, Body: "\x05"}
		if in, told, err := frame.Feed(api.Inbox{}, whole(f)); in != (api.Inbox{}) || !slices.Equal(told, []api.Frame{f}) || err != api.OK {
			t.Errorf("Who %d: %s, %s, %d", who, show(in), show(told), err)
		}
	}
}

// Each byte of a stream is made each other byte: what is heard is what the chapter's words say.
func TestP9OneByteWrong(t *testing.T) {
	s := joined(fewFrames())
	for i := range len(s) {
		for b := range 256 {
			wrong := s[:i] + string([]byte{byte(b)}) + s[i+1:]
			sameFeed(t, api.Inbox{}, wrong)
			_, told, err := frame.Feed(api.Inbox{}, wrong)
			if wrong != s && err == api.OK && slices.Equal(told, fewFrames()) {
				t.Fatalf("byte %d is %d, and nothing is seen", i, b)
			}
		}
	}
}

func TestP9WildStreams(t *testing.T) {
	r := rand.New(rand.NewSource(9))
	good := goodFrames()
	for range 3000 {
		var l []byte
		for range r.Intn(5) {
			l = append(l, whole(good[r.Intn(len(good))])...)
		}
		for range r.Intn(3) {
			if len(l) > 0 {
				l[r.Intn(len(l))] = byte(r.Intn(12))
			}
		}
		cut := r.Intn(len(l) + 1)
		sameFeed(t, api.Inbox{}, string(l))
		sameFeed(t, api.Inbox{Rest: string(l[:cut])}, string(l[cut:]))
		sameFeed(t, api.Inbox{}, string(l[cut:]))
	}
}

func TestP9EveryCutInTwo(t *testing.T) {
	for _, s := range streams() {
		for i := range len(s) + 1 {
			samePieces(t, s, []string{s[:i], s[i:]})
		}
	}
}

func TestP9ByteByByte(t *testing.T) {
	for _, s := range streams() {
		samePieces(t, s, bytePieces(s))
		samePieces(t, s, append([]string{"", ""}, append(bytePieces(s), "", "")...))
	}
}

// All ways to cut streams of at most 18 bytes.
func TestP9EveryCut(t *testing.T) {
	end, data := whole(api.Frame{Kind: api.FEnd, Who: 7}), whole(api.Frame{Kind: api.FData, Who: 1, Body: "a"})
	short := []string{end + end, end + data, data + end[:7], end + "\x00" + end[:3], end + data[:8] + "\x00\x07", end + "\x02\x00\x01\x04\x00\x00"}
	for _, s := range short {
		for cuts := range 1 << (len(s) - 1) {
			var pieces []string
			from := 0
			for i := 1; i < len(s); i++ {
				if cuts>>(i-1)&1 == 1 {
					pieces = append(pieces, s[from:i])
					from = i
				}
			}
			samePieces(t, s, append(pieces, s[from:]))
		}
	}
}

func TestP9WildCuts(t *testing.T) {
	r := rand.New(rand.NewSource(3))
	for _, s := range streams() {
		for range 200 {
			var pieces []string
			for from := 0; from < len(s); {
				to := min(len(s), from+r.Intn(1+r.Intn(40)))
				pieces = append(pieces, s[from:to])
				from = to
			}
			samePieces(t, s, pieces)
		}
	}
}

func TestP1AnswersWhateverIsGiven(t *testing.T) {
	defer func() {
		if r := recover(); r != nil {
			t.Errorf("it panics: %v", r)
		}
	}()
	large := strings.Repeat("\x03\x07\x00\x00\x01\xff", 1<<18)
	texts := append(streams(), large, large[1:], strings.Repeat(whole(api.Frame{Kind: api.FEnd}), 1<<16))
	for _, s := range texts {
		for _, n := range []int{math.MinInt, -1, 0, 1, 9, 255, 256, math.MaxInt} {
			frame.Check(api.Frame{Kind: n, Who: n, Body: s})
			frame.Write(api.Frame{Kind: n, Who: n, Body: s})
			frame.Feed(api.Inbox{Rest: s, Dead: api.Errno(n)}, s)
		}
	}
}

// meet tells whether two texts share memory.
func meet(a, b string) bool {
	if a == "" || b == "" {
		return false
	}
	fromA, fromB := uintptr(unsafe.Pointer(unsafe.StringData(a))), uintptr(unsafe.Pointer(unsafe.StringData(b)))
	return fromA < fromB+uintptr(len(b)) && fromB < fromA+uintptr(len(a))
}

func TestP2AnswersAreNewMemory(t *testing.T) {
	for _, f := range goodFrames() {
		if s, _ := frame.Write(f); meet(s, f.Body) {
			t.Errorf("a written frame of %d bytes shares its memory", len(s))
		}
	}
	for _, s := range streams() {
		for _, in := range []api.Inbox{{}, {Rest: s}, {Rest: whole(fewFrames()[0])}, {Rest: s, Dead: api.ErrSum}} {
			for _, piece := range []string{"", s} {
				got, told, _ := frame.Feed(in, piece)
				texts := []string{in.Rest, piece, got.Rest}
				if meet(got.Rest, in.Rest) || meet(got.Rest, piece) {
					t.Errorf("what is left of %.40q shares its memory", s)
				}
				for i, f := range told {
					if slices.ContainsFunc(texts, func(other string) bool { return meet(f.Body, other) }) {
						t.Errorf("the body of frame %d of %.40q shares its memory", i, s)
					}
					texts = append(texts, f.Body)
				}
			}
		}
	}
}

func TestP2WhatIsHandedInStays(t *testing.T) {
	for i, s := range streams() {
		before := strings.Clone(s)
		in := api.Inbox{Rest: strings.Clone(s)}
		frame.Feed(in, s)
		frame.Write(api.Frame{Kind: 1, Body: s})
		if s != before || in != (api.Inbox{Rest: before}) {
			t.Errorf("text %d is changed", i)
		}
	}
}

func TestP2NothingIsKept(t *testing.T) {
	s := joined(fewFrames())
	frame.Feed(api.Inbox{}, s+"\x03\x07")
	frame.Feed(api.Inbox{}, s+"\x00")
	_, first, _ := frame.Feed(api.Inbox{}, s)
	first[0] = api.Frame{Kind: 99}
	_ = append(first[:1], api.Frame{Kind: 99})
	if in, again, err := frame.Feed(api.Inbox{}, s); in != (api.Inbox{}) || !slices.Equal(again, fewFrames()) || err != api.OK {
		t.Errorf("heard again: %s, %s, %d", show(in), show(again), err)
	}
}

func TestP2CallsAtOneTimeDoNotMeet(t *testing.T) {
	all := streams()
	told := make([][]api.Frame, len(all))
	var wait sync.WaitGroup
	for i, s := range all {
		wait.Go(func() { _, told[i], _ = frame.Feed(api.Inbox{}, s) })
	}
	wait.Wait()
	for i, s := range all {
		if _, want, _ := plainFeed(api.Inbox{}, s); !slices.Equal(told[i], want) {
			t.Errorf("stream %d: %s", i, show(told[i]))
		}
	}
}
