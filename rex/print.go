package rex

import (
	"slices"
	"strings"

	"pushmill/api"
	"pushmill/class"
)

// mostListed is how many bytes a class may have whose own ITEMs are written, not those of all others.
const mostListed = 128

// Print is r as a text: P15.
func Print(r api.Rex) (string, api.Errno) {
	if err := Check(r); err != api.OK {
		return "", err
	}
	return written(r), api.OK
}

func written(r api.Rex) string {
	switch r.Kind {
	case api.RNone:
		return "[]"
	case api.REmpty:
		return "()"
	case api.RByte:
		return writtenClass(r.Class)
	case api.RStar:
		return writtenKid(r.Kids[0], api.RCat, api.RAlt, api.RStar) + "*"
	case api.RCat:
		return writtenKid(r.Kids[0], api.RAlt) + writtenKid(r.Kids[1], api.RAlt, api.RCat)
	}
	return written(r.Kids[0]) + "|" + writtenKid(r.Kids[1], api.RAlt)
}

// writtenKid is kid, in brackets if it is of one of those kinds.
func writtenKid(kid api.Rex, inBrackets ...int) string {
	if slices.Contains(inBrackets, kid.Kind) {
		return "(" + written(kid) + ")"
	}
	return written(kid)
}

func writtenClass(c api.Class) string {
	count := class.Count(c)
	switch {
	case count == 1:
		return writtenByte(class.Bytes(c)[0])
	case c == notNewLine():
		return "."
	case count <= mostListed:
		return "[" + writtenItems(c) + "]"
	}
	return "[^" + writtenItems(class.Not(c)) + "]"
}

func writtenItems(c api.Class) string {
	var b strings.Builder
	for rest := class.Bytes(c); rest != ""; {
		n := runLength(rest)
		b.WriteString(writtenRun(rest[:n]))
		rest = rest[n:]
	}
	return b.String()
}

// runLength is how many bytes at the front of s, whose bytes rise, lie side by side.
func runLength(s string) int {
	n := 1
	for n < len(s) && s[n] == s[n-1]+1 {
		n++
	}
	return n
}

func writtenRun(run string) string {
	first, last := writtenByte(run[0]), writtenByte(run[len(run)-1])
	switch len(run) {
	case 1:
		return first
	case 2:
		return first + last
	}
	return first + "-" + last
}

// writtenByte is the CHAR of b.
func writtenByte(b byte) string {
	if i := strings.IndexByte(blanks, b); i >= 0 {
		return `\` + blankNames[i:i+1]
	}
	if !isSeen(b) {
		return `\x` + string([]byte{digits[b>>digitBits], digits[b&(1<<digitBits-1)]})
	}
	if isSign(b) {
		return `\` + string([]byte{b})
	}
	return string([]byte{b})
}
