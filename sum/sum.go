// Package sum: check sums: see doc/01-sum.md.
package sum

// The polynomial of CRC-32, mirrored, because bits are taken from the lowest one on.
const polynomial uint32 = 0xedb88320

// Sum is the check sum of s: P3.
// A sum of 0 stands for a register of ones, so that it goes on from no text at all.
func Sum(s string) uint32 { return More(0, s) }

// More is the check sum of a text whose sum is sum, with s behind it: P4.
func More(sum uint32, s string) uint32 {
	register := ^sum
	// By index: a range over s would go by runes, and s is any bytes.
	for i := 0; i < len(s); i++ {
		register = moveByte(register ^ uint32(s[i]))
	}
	return ^register
}

// moveByte goes bit by bit: a table of 256 words would be larger than the language's rules let one be.
func moveByte(register uint32) uint32 {
	for range 8 {
		fallen := register & 1
		register >>= 1
		if fallen == 1 {
			register ^= polynomial
		}
	}
	return register
}
