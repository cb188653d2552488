package pack_test

import (
	"encoding/binary"
	"math/big"
	"slices"
	"strings"
	"sync"
	"testing"
	"unsafe"

	"pushmill/api"
	"pushmill/pack"
)

// numsAtEdges has the numbers beside each power of two, where a group begins or ends.
func numsAtEdges() []uint64 {
	l := []uint64{0, 1, 100, 101, 300, 4095, 4096, 4097, 1<<64 - 1}
	for i := range 64 {
		l = append(l, 1<<i-1, 1<<i, 1<<i+1)
	}
	return l
}

// allBytes is a text of each byte once.
func allBytes() string {
	l := make([]byte, 256)
	for i := range l {
		l[i] = byte(i)
	}
	return string(l)
}

// oddTexts has texts that may be packed: none, short, at the edges of a length's bytes, no UTF-8, the longest.
func oddTexts() []string {
	return []string{
		"", "a", "\x00", "\x80", "\xff", "\xc3\x28", "日本", "line\nline\n", allBytes(),
		strings.Repeat("x", 127), strings.Repeat("\x80", 128), strings.Repeat("\x00", 129),
		strings.Repeat("\xff", api.MaxText-1), strings.Repeat("y", api.MaxText),
	}
}

// oddLists has lists that may be packed.
func oddLists() [][]string {
	return [][]string{
		nil, {}, {""}, {"a", ""}, {"", "", ""}, {"\x00", "\x80\x80", "\x02\x01a\x00"}, oddTexts(),
		slices.Repeat([]string{""}, api.MaxList), slices.Repeat([]string{"ab"}, api.MaxList-1),
		slices.Repeat([]string{strings.Repeat("z", api.MaxText)}, api.MaxList),
	}
}

// shortTexts has each text of at most most bytes, all of them from letters.
func shortTexts(letters string, most int) []string {
	l := []string{""}
	for from := 0; most > 0; most-- {
		to := len(l)
		for _, s := range l[from:to] {
			for i := range len(letters) {
				l = append(l, s+letters[i:i+1])
			}
		}
		from = to
	}
	return l
}

// wildTexts has texts that are read: of all kinds, most of them wrong.
func wildTexts() []string {
	l := shortTexts(allBytes(), 2)
	l = append(l, shortTexts("\x00\x01\x02\x03a\x7f\x80\x81\xff", 4)...)
	for n := range 14 {
		for _, b := range []string{"\x80", "\x81", "\xff", "\xaa"} {
			for last := range 256 {
				l = append(l, strings.Repeat(b, n)+string([]byte{byte(last)}), strings.Repeat(b, n)+string([]byte{byte(last)})+"\x00tail")
			}
		}
	}
	return append(l, oddTexts()...)
}

func TestP5NumKnown(t *testing.T) {
	known := []struct {
		n    uint64
		want string
	}{
		{0, "\x00"}, {1, "\x01"}, {127, "\x7f"}, {128, "\x80\x01"}, {129, "\x81\x01"}, {255, "\xff\x01"}, {256, "\x80\x02"},
		{300, "\xac\x02"}, {4096, "\x80\x20"}, {16383, "\xff\x7f"}, {16384, "\x80\x80\x01"}, {1<<21 - 1, "\xff\xff\x7f"},
		{1<<63 - 1, "\xff\xff\xff\xff\xff\xff\xff\xff\x7f"},
		{1 << 63, "\x80\x80\x80\x80\x80\x80\x80\x80\x80\x01"},
		{1<<64 - 1, "\xff\xff\xff\xff\xff\xff\xff\xff\xff\x01"},
	}
	for _, k := range known {
		if got := pack.Num(k.n); got != k.want {
			t.Errorf("Num(%d) = %q, not %q", k.n, got, k.want)
		}
	}
}

func TestP5NumIsUvarint(t *testing.T) {
	for _, n := range numsAtEdges() {
		if got, want := pack.Num(n), string(binary.AppendUvarint(nil, n)); got != want {
			t.Errorf("Num(%d) = %q, not %q", n, got, want)
		}
	}
	for n := range uint64(1 << 16) {
		if got, want := pack.Num(n), string(binary.AppendUvarint(nil, n)); got != want {
			t.Fatalf("Num(%d) = %q, not %q", n, got, want)
		}
	}
}

func TestP5WrittenNumIsRead(t *testing.T) {
	for _, n := range numsAtEdges() {
		s := pack.Num(n)
		for _, tail := range []string{"", "\x00", "\x80", "\xff\xff", "x", strings.Repeat("\x80", 12)} {
			if got, size, err := pack.ReadNum(s + tail); got != n || size != len(s) || err != api.OK {
				t.Errorf("ReadNum(%q) = %d, %d, %d", s+tail, got, size, err)
			}
		}
	}
}

func TestP5EveryBeginningOfANumIsShort(t *testing.T) {
	for _, n := range numsAtEdges() {
		s := pack.Num(n)
		for i := range len(s) {
			if got, size, err := pack.ReadNum(s[:i]); got != 0 || size != 0 || err != api.ErrShort {
				t.Errorf("ReadNum(%q) = %d, %d, %d", s[:i], got, size, err)
			}
		}
	}
}

func TestP5ReadNumErrors(t *testing.T) {
	nine := strings.Repeat("\xff", 9)
	known := []struct {
		s    string
		want api.Errno
	}{
		{"", api.ErrShort}, {"\x80", api.ErrShort}, {"\xff", api.ErrShort}, {"\x80\x80", api.ErrShort}, {nine, api.ErrShort},
		{"\x80\x00", api.ErrForm}, {"\xff\x00", api.ErrForm}, {"\x80\x80\x00", api.ErrForm}, {"\x80\x00\x01", api.ErrForm},
		{nine + "\x00", api.ErrForm}, {nine + "\x02", api.ErrForm}, {nine + "\x03", api.ErrForm}, {nine + "\x7f", api.ErrForm},
		{nine + "\x80", api.ErrForm}, {nine + "\x81", api.ErrForm}, {nine + "\xff", api.ErrForm},
		{nine + "\x80\x00", api.ErrForm}, {nine + "\x81\x01", api.ErrForm}, {nine + nine, api.ErrForm},
		{strings.Repeat("\x80", 9) + "\x02", api.ErrForm}, {strings.Repeat("\x80", 10), api.ErrForm}, {strings.Repeat("\x80", 5000), api.ErrForm},
	}
	for _, k := range known {
		if n, size, err := pack.ReadNum(k.s); n != 0 || size != 0 || err != k.want {
			t.Errorf("ReadNum(%q) = %d, %d, %d, not error %d", k.s, n, size, err, k.want)
		}
	}
}

// plainNum reads a number as the chapter words it, with numbers of any size.
func plainNum(s string) (uint64, int, api.Errno) {
	last := 0
	for last < len(s) && s[last] >= 128 {
		last++
	}
	if last == len(s) && len(s) <= 9 {
		return 0, 0, api.ErrShort
	}
	if last >= 10 || last > 0 && s[last] == 0 {
		return 0, 0, api.ErrForm
	}
	n := new(big.Int)
	for i := last; i >= 0; i-- {
		n.Lsh(n, 7)
		n.Add(n, big.NewInt(int64(s[i]%128)))
	}
	if !n.IsUint64() {
		return 0, 0, api.ErrForm
	}
	return n.Uint64(), last + 1, api.OK
}

func TestP5ReadNumOfWildTexts(t *testing.T) {
	for _, s := range wildTexts() {
		n, size, err := pack.ReadNum(s)
		wantN, wantSize, wantErr := plainNum(s)
		if n != wantN || size != wantSize || err != wantErr {
			t.Fatalf("ReadNum(%q) = %d, %d, %d, not %d, %d, %d", s, n, size, err, wantN, wantSize, wantErr)
		}
	}
}

func TestP5ReadNumIsWrittenAsItWas(t *testing.T) {
	read := 0
	for _, s := range wildTexts() {
		n, size, err := pack.ReadNum(s)
		if err != api.OK {
			continue
		}
		read++
		if pack.Num(n) != s[:size] {
			t.Fatalf("%q is read as %d, and written as %q", s[:size], n, pack.Num(n))
		}
	}
	if read == 0 {
		t.Error("nothing was read")
	}
}

func TestP6TextKnown(t *testing.T) {
	long := strings.Repeat("y", api.MaxText)
	known := []struct{ s, want string }{
		{"", "\x00"}, {"a", "\x01a"}, {"\x00\xff", "\x02\x00\xff"}, {"日本", "\x06日本"},
		{long[:127], "\x7f" + long[:127]}, {long[:128], "\x80\x01" + long[:128]},
		{long[:4095], "\xff\x1f" + long[:4095]}, {long, "\x80\x20" + long},
	}
	for _, k := range known {
		if got, err := pack.Text(k.s); got != k.want || err != api.OK {
			t.Errorf("Text of %d bytes = %q, %d", len(k.s), got, err)
		}
	}
}

func TestP6TextTooLong(t *testing.T) {
	for _, n := range []int{api.MaxText + 1, api.MaxText + 2, 2 * api.MaxText, 1 << 20} {
		if got, err := pack.Text(strings.Repeat("y", n)); got != "" || err != api.ErrLarge {
			t.Errorf("Text of %d bytes = %d bytes, %d", n, len(got), err)
		}
	}
}

func TestP6WrittenTextIsRead(t *testing.T) {
	for _, s := range oddTexts() {
		packed, err := pack.Text(s)
		if err != api.OK {
			t.Fatalf("Text of %d bytes: %d", len(s), err)
		}
		for _, tail := range []string{"", "\x00", "x", "\xff\xff"} {
			if got, size, err := pack.ReadText(packed + tail); got != s || size != len(packed) || err != api.OK {
				t.Errorf("%d bytes with %q behind: %d bytes, %d, %d", len(s), tail, len(got), size, err)
			}
		}
	}
}

func TestP6EveryBeginningOfATextIsShort(t *testing.T) {
	for _, s := range oddTexts() {
		packed, _ := pack.Text(s)
		for i := range len(packed) {
			if got, size, err := pack.ReadText(packed[:i]); got != "" || size != 0 || err != api.ErrShort {
				t.Fatalf("%d of %d bytes: %q, %d, %d", i, len(packed), got, size, err)
			}
		}
	}
}

func TestP6ReadTextErrors(t *testing.T) {
	long := strings.Repeat("y", 5000)
	known := []struct {
		s    string
		want api.Errno
	}{
		{"", api.ErrShort}, {"\x80", api.ErrShort}, {"\x80\x00", api.ErrForm}, {strings.Repeat("\xff", 10), api.ErrForm},
		{"\x81\x00y", api.ErrForm}, {"\x01", api.ErrShort}, {"\x02y", api.ErrShort}, {"\x80\x20", api.ErrShort},
		{"\x80\x20" + long[:4095], api.ErrShort}, {"\x81\x20", api.ErrLarge}, {"\x81\x20" + long, api.ErrLarge},
		{pack.Num(1<<31) + long, api.ErrLarge}, {pack.Num(1<<32) + long, api.ErrLarge}, {pack.Num(1<<32+1) + long, api.ErrLarge},
		{pack.Num(1 << 63), api.ErrLarge}, {pack.Num(1<<63+1) + long, api.ErrLarge}, {pack.Num(1<<64-1) + long, api.ErrLarge},
	}
	for _, k := range known {
		if got, size, err := pack.ReadText(k.s); got != "" || size != 0 || err != k.want {
			t.Errorf("ReadText(%.20q) = %q, %d, %d, not error %d", k.s, got, size, err, k.want)
		}
	}
}

// plainText reads a text as the chapter words it.
func plainText(s string) (string, int, api.Errno) {
	n, size, err := plainNum(s)
	if err != api.OK {
		return "", 0, err
	}
	if n > 4096 {
		return "", 0, api.ErrLarge
	}
	if uint64(len(s)-size) < n {
		return "", 0, api.ErrShort
	}
	return s[size:][:n], size + int(n), api.OK
}

func TestP6ReadTextOfWildTexts(t *testing.T) {
	read := 0
	for _, s := range wildTexts() {
		text, size, err := pack.ReadText(s)
		wantText, wantSize, wantErr := plainText(s)
		if text != wantText || size != wantSize || err != wantErr {
			t.Fatalf("ReadText(%q) = %q, %d, %d, not %q, %d, %d", s, text, size, err, wantText, wantSize, wantErr)
		}
		if err != api.OK {
			continue
		}
		read++
		if again, err := pack.Text(text); again != s[:size] || err != api.OK {
			t.Fatalf("%q is written as %q, %d", s[:size], again, err)
		}
	}
	if read == 0 {
		t.Error("nothing was read")
	}
}

func TestP7ListKnown(t *testing.T) {
	known := []struct {
		l    []string
		want string
	}{
		{nil, "\x00"}, {[]string{}, "\x00"}, {[]string{""}, "\x01\x00"}, {[]string{"a", ""}, "\x02\x01a\x00"},
		{[]string{"b", "a", "b"}, "\x03\x01b\x01a\x01b"}, {[]string{"\xff\x00", "日"}, "\x02\x02\xff\x00\x03日"},
		{slices.Repeat([]string{""}, 100), "\x64" + strings.Repeat("\x00", 100)},
		{[]string{strings.Repeat("y", 4096)}, "\x01\x80\x20" + strings.Repeat("y", 4096)},
	}
	for _, k := range known {
		if got, err := pack.List(k.l); got != k.want || err != api.OK {
			t.Errorf("List(%.20q) = %.20q, %d", k.l, got, err)
		}
	}
}

func TestP7ListTooLarge(t *testing.T) {
	long := strings.Repeat("y", api.MaxText+1)
	lists := [][]string{
		slices.Repeat([]string{""}, api.MaxList+1), slices.Repeat([]string{"a"}, 1000), slices.Repeat([]string{long}, api.MaxList+1),
		{long}, {"a", long}, {long, "a"}, {"a", long, "b", long}, append(slices.Repeat([]string{""}, api.MaxList-1), long),
	}
	for i, l := range lists {
		if got, err := pack.List(l); got != "" || err != api.ErrLarge {
			t.Errorf("list %d: %.20q, %d", i, got, err)
		}
	}
}

func TestP7WrittenListIsRead(t *testing.T) {
	for i, l := range oddLists() {
		s, err := pack.List(l)
		if err != api.OK {
			t.Fatalf("list %d: %d", i, err)
		}
		if got, err := pack.ReadList(s); !slices.Equal(got, l) || err != api.OK {
			t.Errorf("list %d: %.20q, %d", i, got, err)
		}
		for _, tail := range []string{"\x00", "x", "\xff", s} {
			if got, err := pack.ReadList(s + tail); got != nil || err != api.ErrForm {
				t.Errorf("list %d with bytes behind: %.20q, %d", i, got, err)
			}
		}
	}
}

func TestP7EveryBeginningOfAListIsShort(t *testing.T) {
	for i, l := range oddLists()[:8] {
		s, _ := pack.List(l)
		for j := range len(s) {
			if got, err := pack.ReadList(s[:j]); got != nil || err != api.ErrShort {
				t.Fatalf("list %d, %d of %d bytes: %.20q, %d", i, j, len(s), got, err)
			}
		}
	}
}

func TestP7ReadListErrors(t *testing.T) {
	known := []struct {
		s    string
		want api.Errno
	}{
		{"", api.ErrShort}, {"\x80", api.ErrShort}, {"\x80\x00", api.ErrForm}, {strings.Repeat("\x80", 10), api.ErrForm},
		{"\x65", api.ErrLarge}, {"\x65" + strings.Repeat("\x00", 101), api.ErrLarge}, {"\x65\x80\x00", api.ErrLarge},
		{pack.Num(1 << 32), api.ErrLarge}, {pack.Num(1 << 63), api.ErrLarge}, {pack.Num(1<<64-1) + "x", api.ErrLarge},
		{"\x64" + strings.Repeat("\x00", 99), api.ErrShort}, {"\x64" + strings.Repeat("\x00", 101), api.ErrForm},
		{"\x01", api.ErrShort}, {"\x01\x02a", api.ErrShort}, {"\x02\x01a", api.ErrShort}, {"\x02\x01a\x80", api.ErrShort},
		{"\x01\x81\x00a", api.ErrForm}, {"\x02\x01a\x80\x00", api.ErrForm}, {"\x01\x81\x20a", api.ErrLarge}, {"\x02\x00\x81\x20", api.ErrLarge},
		{"\x00x", api.ErrForm}, {"\x01\x00\x00", api.ErrForm}, {"\x02\x01a\x00x", api.ErrForm},
		// The first text's error is told, not a later one's.
		{"\x02\x81\x20\x80\x00", api.ErrLarge}, {"\x02\x80\x00\x81\x20", api.ErrForm}, {"\x03\x00\x81\x20\x80", api.ErrLarge},
	}
	for _, k := range known {
		if got, err := pack.ReadList(k.s); got != nil || err != k.want {
			t.Errorf("ReadList(%.20q) = %q, %d, not error %d", k.s, got, err, k.want)
		}
	}
}

// plainList reads a list as the chapter words it.
func plainList(s string) ([]string, api.Errno) {
	n, size, err := plainNum(s)
	if err != api.OK {
		return nil, err
	}
	if n > 100 {
		return nil, api.ErrLarge
	}
	l := make([]string, n)
	for i := range l {
		s = s[size:]
		l[i], size, err = plainText(s)
		if err != api.OK {
			return nil, err
		}
	}
	if s[size:] != "" {
		return nil, api.ErrForm
	}
	return l, api.OK
}

func TestP7ReadListOfWildTexts(t *testing.T) {
	read := 0
	for _, s := range wildTexts() {
		l, err := pack.ReadList(s)
		want, wantErr := plainList(s)
		if !slices.Equal(l, want) || err != wantErr {
			t.Fatalf("ReadList(%q) = %q, %d, not %q, %d", s, l, err, want, wantErr)
		}
		if err != api.OK {
			continue
		}
		read++
		if again, err := pack.List(l); again != s || err != api.OK {
			t.Fatalf("%q is written as %q, %d", s, again, err)
		}
	}
	if read == 0 {
		t.Error("nothing was read")
	}
}

func TestP1AnswersWhateverIsGiven(t *testing.T) {
	defer func() {
		if r := recover(); r != nil {
			t.Errorf("it panics: %v", r)
		}
	}()
	large := strings.Repeat("\x80\x00\xff\x01", 1<<18)
	for _, s := range append(wildTexts(), large, large[1:], large[2:], large[3:]) {
		pack.ReadNum(s)
		pack.Text(s)
		pack.ReadText(s)
		pack.List([]string{s, s})
		pack.ReadList(s)
	}
	for _, n := range numsAtEdges() {
		for _, tail := range []string{"", "x", large} {
			pack.ReadText(pack.Num(n) + tail)
			pack.ReadList(pack.Num(n) + tail)
			pack.ReadList("\x01" + pack.Num(n) + tail)
		}
	}
	pack.List(make([]string, 1<<20))
}

// meet tells whether two texts share memory.
func meet(a, b string) bool {
	if a == "" || b == "" {
		return false
	}
	fromA, fromB := uintptr(unsafe.Pointer(unsafe.StringData(a))), uintptr(unsafe.Pointer(unsafe.StringData(b)))
	return fromA < fromB+uintptr(len(b)) && fromB < fromA+uintptr(len(a))
}

func TestP2AnswersAreNewMemory(t *testing.T) {
	for _, l := range oddLists() {
		s, _ := pack.List(l)
		for _, text := range l {
			if packed, _ := pack.Text(text); meet(packed, text) || meet(s, text) {
				t.Errorf("a packed text of %d bytes shares its memory", len(text))
			}
		}
		got, _ := pack.ReadList(s)
		for i, text := range got {
			if meet(text, s) || slices.ContainsFunc(got[:i], func(other string) bool { return meet(text, other) }) {
				t.Errorf("text %d of a list that was read shares its memory", i)
			}
		}
	}
	for _, text := range oddTexts() {
		s, _ := pack.Text(text)
		if got, _, _ := pack.ReadText(s); meet(got, s) {
			t.Errorf("a text of %d bytes that was read shares its memory", len(text))
		}
	}
}

func TestP2WhatIsHandedInStays(t *testing.T) {
	for i, l := range oddLists() {
		room := append(slices.Clone(l), "behind", "it")
		before := slices.Clone(room)
		pack.List(room[:len(l)])
		if !slices.Equal(room, before) {
			t.Errorf("list %d is changed", i)
		}
	}
	for i, s := range wildTexts() {
		before := strings.Clone(s)
		pack.Text(s)
		pack.ReadNum(s)
		pack.ReadText(s)
		pack.ReadList(s)
		if s != before {
			t.Errorf("text %d is changed", i)
		}
	}
}

func TestP2NothingIsKept(t *testing.T) {
	s, _ := pack.List([]string{"a", "b"})
	first, _ := pack.ReadList(s)
	first[0] = "changed"
	_ = append(first[:1], "changed")
	if again, err := pack.ReadList(s); !slices.Equal(again, []string{"a", "b"}) || err != api.OK {
		t.Errorf("read again: %q, %d", again, err)
	}
	l := []string{"a", "b"}
	packed, _ := pack.List(l)
	l[0] = "changed"
	if packed != s {
		t.Errorf("written: %q", packed)
	}
}

func TestP2CallsAtOneTimeDoNotMeet(t *testing.T) {
	lists := oddLists()
	got := make([][]string, len(lists))
	var wait sync.WaitGroup
	for i := range lists {
		wait.Go(func() {
			s, _ := pack.List(lists[i])
			got[i], _ = pack.ReadList(s)
		})
	}
	wait.Wait()
	for i, l := range lists {
		if !slices.Equal(got[i], l) {
			t.Errorf("list %d: %.20q", i, got[i])
		}
	}
}
