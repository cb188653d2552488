package sum_test

import (
	"hash/crc32"
	"math/bits"
	"strings"
	"sync"
	"testing"

	"pushmill/sum"
)

// oddTexts has texts of every kind: none, short, long, all bytes, bytes that are no UTF-8.
func oddTexts() []string {
	all := make([]byte, 256)
	for i := range all {
		all[i] = byte(i)
	}
	return []string{
		"", "a", "abc", "123456789", "\x00", "\x00\x00\x00\x00", "\xff", "\xff\xff\xff\xff",
		"\x80", "\xc3\x28", "\xed\xa0\x80", "\xf4\x90\x80\x80", "é", "日本", "line\nline\n",
		string(all), strings.Repeat("\x00", 1000), strings.Repeat("\xff", 1000),
		strings.Repeat(string(all), 400),
	}
}

// oddSums has sums that a text may go on from, whether a text has them or not.
func oddSums() []uint32 {
	l := []uint32{0, 1, 0x7fffffff, 0x80000000, 0xffffffff, 0xedb88320, 0x12477cdf, 0xcbf43926, 0xdeadbeef}
	for i := range 32 {
		l = append(l, 1<<i)
	}
	return l
}

func TestP3KnownSums(t *testing.T) {
	known := []struct {
		text string
		sum  uint32
	}{
		{"", 0},
		{"123456789", 0xcbf43926},
		{"a", 0xe8b7be43},
		{"abc", 0x352441c2},
		{"\x00", 0xd202ef8d},
		{"\xff", 0xff000000},
		{"\x00\x00\x00\x00", 0x2144df1c},
		{"\xff\xff\xff\xff", 0xffffffff},
		{"The quick brown fox jumps over the lazy dog", 0x414fa339},
	}
	for _, k := range known {
		if got := sum.Sum(k.text); got != k.sum {
			t.Errorf("Sum(%q) = %08x, not %08x", k.text, got, k.sum)
		}
	}
}

func TestP3EveryByte(t *testing.T) {
	for b := range 256 {
		for _, text := range []string{string([]byte{byte(b)}), string([]byte{'x', byte(b), 0xfe})} {
			if got, want := sum.Sum(text), crc32.ChecksumIEEE([]byte(text)); got != want {
				t.Errorf("Sum(%q) = %08x, not %08x", text, got, want)
			}
		}
	}
}

func TestP3IsCRC32(t *testing.T) {
	for _, s := range oddTexts() {
		if got, want := sum.Sum(s), crc32.ChecksumIEEE([]byte(s)); got != want {
			t.Errorf("Sum of %d bytes = %08x, not %08x", len(s), got, want)
		}
	}
}

func TestP4GoesOnAtEveryCut(t *testing.T) {
	s := "123456789\x00\xff\x80é\n" + strings.Repeat("\x00", 9)
	for i := 0; i <= len(s); i++ {
		if got, want := sum.More(sum.Sum(s[:i]), s[i:]), sum.Sum(s); got != want {
			t.Errorf("cut at %d: %08x, not %08x", i, got, want)
		}
	}
}

func TestP4GoesOnByteByByte(t *testing.T) {
	for _, s := range oddTexts() {
		var got uint32
		for i := 0; i < len(s); i++ {
			got = sum.More(got, s[i:i+1])
		}
		if want := sum.Sum(s); got != want {
			t.Errorf("%d bytes, one by one: %08x, not %08x", len(s), got, want)
		}
	}
}

func TestP4FromZeroIsSum(t *testing.T) {
	for _, s := range oddTexts() {
		if got, want := sum.More(0, s), sum.Sum(s); got != want {
			t.Errorf("More(0, %d bytes) = %08x, not %08x", len(s), got, want)
		}
	}
}

func TestP4FromAnySum(t *testing.T) {
	for _, from := range oddSums() {
		if got := sum.More(from, ""); got != from {
			t.Errorf("More(%08x, \"\") = %08x", from, got)
		}
		for _, s := range oddTexts() {
			got, want := sum.More(from, s), crc32.Update(from, crc32.IEEETable, []byte(s))
			if got != want {
				t.Errorf("More(%08x, %d bytes) = %08x, not %08x", from, len(s), got, want)
			}
		}
	}
}

// flipped is s with the bits of mask turned from bit number at on; those beyond its end are left out.
func flipped(s string, at int, mask uint32) string {
	l := []byte(s)
	for i := range 32 {
		if n := at + i; mask>>i&1 == 1 && n < 8*len(l) {
			l[n/8] ^= 1 << (n % 8)
		}
	}
	return string(l)
}

func TestP4NearBitsAreSeen(t *testing.T) {
	masks := []uint32{1, 3, 0x80000001, 0xffffffff, 0xedb88321, 0xdb710641, 0x04c11db7, 0x82608edb, 0x55555555, 0x00010001}
	for _, s := range []string{"a", "1234", "123456789", strings.Repeat("\x00", 40), strings.Repeat("\xff", 40)} {
		for at := range 8 * len(s) {
			for _, mask := range masks {
				if sum.Sum(flipped(s, at, mask)) == sum.Sum(s) {
					t.Errorf("%q: bits %08x from %d on are not seen", s, mask, at)
				}
			}
		}
	}
}

// independent tells whether no choice of some of l, exclusive-ored, is 0.
func independent(l []uint32) bool {
	var basis [32]uint32
	for _, v := range l {
		for v != 0 {
			top := bits.Len32(v) - 1
			if basis[top] == 0 {
				basis[top] = v
				break
			}
			v ^= basis[top]
		}
		if v == 0 {
			return false
		}
	}
	return true
}

// What turned bits do to a sum is exclusive-ored from what each of them does,
// so independent bits in a window mean that every choice of them is seen.
func TestP4EveryChoiceOfNearBitsIsSeen(t *testing.T) {
	s := "what is told is told for good"
	for at := 0; at+32 <= 8*len(s); at++ {
		var l []uint32
		for i := range 32 {
			l = append(l, sum.Sum(flipped(s, at, 1<<i))^sum.Sum(s))
		}
		if !independent(l) {
			t.Errorf("some bits among 32 from %d on are not seen", at)
		}
	}
}

func TestP4TurnedBitsAreExclusiveOred(t *testing.T) {
	s := "what is told is told for good"
	for at := 0; at+32 <= 8*len(s); at++ {
		a, b := uint32(0xdeadbeef), uint32(0x12345678)
		got := sum.Sum(flipped(s, at, a)) ^ sum.Sum(flipped(s, at, b)) ^ sum.Sum(s)
		if want := sum.Sum(flipped(s, at, a^b)); got != want {
			t.Errorf("from %d on: %08x, not %08x", at, got, want)
		}
	}
}

func TestP1AnswersWhateverIsGiven(t *testing.T) {
	defer func() {
		if r := recover(); r != nil {
			t.Errorf("it panics: %v", r)
		}
	}()
	for _, s := range append(oddTexts(), strings.Repeat("\xfe\x00", 1<<19)) {
		sum.Sum(s)
		for _, from := range []uint32{0, 1, 0xffffffff} {
			sum.More(from, s)
		}
	}
}

func TestP2NothingIsKept(t *testing.T) {
	texts := oddTexts()
	var first []uint32
	for _, s := range texts {
		first = append(first, sum.Sum(s))
	}
	for i := len(texts) - 1; i >= 0; i-- {
		sum.More(0xffffffff, texts[len(texts)-1-i])
		if got := sum.Sum(texts[i]); got != first[i] {
			t.Errorf("text %d: %08x at first, then %08x", i, first[i], got)
		}
	}
}

func TestP2CallsAtOneTimeDoNotMeet(t *testing.T) {
	texts := oddTexts()
	got := make([]uint32, len(texts))
	var wait sync.WaitGroup
	for i := range texts {
		wait.Go(func() { got[i] = sum.More(sum.Sum(texts[i]), texts[i]) })
	}
	wait.Wait()
	for i, s := range texts {
		if want := sum.Sum(s + s); got[i] != want {
			t.Errorf("text %d: %08x, not %08x", i, got[i], want)
		}
	}
}

func TestP2WhatIsHandedInStays(t *testing.T) {
	for i, s := range oddTexts() {
		before := strings.Clone(s)
		sum.Sum(s)
		sum.More(1, s)
		if s != before {
			t.Errorf("text %d is changed", i)
		}
	}
}
