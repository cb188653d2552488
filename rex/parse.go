package rex

import (
	"strings"

	"pushmill/api"
	"pushmill/class"
)

const (
	firstSeen = 33  // the least byte of which texts are made
	lastSeen  = 126 // the greatest one
	signs     = `()[]|*+?.^-\`
	// A blank is written as a backslash and the letter that stands where it does.
	blanks      = "\n\t "
	blankNames  = "nts"
	digits      = "0123456789abcdef"
	digitBits   = 4
	newLine     = 10
	endOfSource = 0 // what is seen behind the last byte: as a byte of a text it can't stand anywhere either
)

// Parse is what s is the text of: P14.
func Parse(s string) (api.Rex, int, api.Errno) {
	if len(s) > api.MaxSource {
		return api.Rex{}, 0, api.ErrLarge
	}
	p := parser{source: s}
	r, err := p.alt()
	if err == api.OK && p.at < len(s) {
		err = api.ErrSyntax // only a bracket that closes nothing is left over
	}
	if err == api.OK {
		err = Check(r)
	}
	if err != api.OK {
		return api.Rex{}, p.at, err
	}
	// What `+` repeats is still shared: laid out ahead of Check, a row of them would have no bound.
	return apart(r), 0, api.OK
}

// parser reads source from at on. With an error at is where it is seen.
type parser struct {
	source string
	at     int
	open   int // how many round brackets are
}

// seen is the byte at which the parser is.
func (p *parser) seen() byte {
	if p.at == len(p.source) {
		return endOfSource
	}
	return p.source[p.at]
}

// pass goes behind b, if it is there.
func (p *parser) pass(b byte) bool {
	is := p.seen() == b
	if is {
		p.at++
	}
	return is
}

func (p *parser) alt() (api.Rex, api.Errno) {
	left, err := p.cat()
	for err == api.OK && p.pass('|') {
		var right api.Rex
		right, err = p.cat()
		left = node(api.RAlt, left, right)
	}
	return left, err
}

func (p *parser) cat() (api.Rex, api.Errno) {
	left, err := p.rep()
	for err == api.OK && !p.catEnds() {
		var right api.Rex
		right, err = p.rep()
		left = node(api.RCat, left, right)
	}
	return left, err
}

// catEnds: is here what may stand behind a CAT that is done?
func (p *parser) catEnds() bool {
	return p.at == len(p.source) || p.seen() == '|' || p.seen() == ')'
}

func (p *parser) rep() (api.Rex, api.Errno) {
	r, err := p.atom()
	for err == api.OK {
		switch {
		case p.pass('*'):
			r = node(api.RStar, r)
		case p.pass('+'):
			r = node(api.RCat, r, node(api.RStar, r))
		case p.pass('?'):
			r = node(api.RAlt, r, node(api.REmpty))
		default:
			return r, api.OK
		}
	}
	return r, err
}

func (p *parser) atom() (api.Rex, api.Errno) {
	switch {
	case p.seen() == '(':
		return p.group()
	case p.pass('['):
		return p.set()
	case p.pass('.'):
		return byteOf(notNewLine()), api.OK
	}
	b, err := p.char()
	return byteOf(only(b)), err
}

// group reads an ATOM in round brackets.
func (p *parser) group() (api.Rex, api.Errno) {
	if p.open == api.MaxDeep {
		return api.Rex{}, api.ErrDeep
	}
	p.at++
	if p.pass(')') {
		return node(api.REmpty), api.OK
	}
	p.open++
	r, err := p.alt()
	p.open--
	if err == api.OK && !p.pass(')') {
		err = api.ErrSyntax
	}
	return r, err
}

// set reads a CLASS, or `[]`, behind its first bracket.
func (p *parser) set() (api.Rex, api.Errno) {
	others := p.pass('^')
	var c api.Class
	for p.seen() != ']' {
		item, err := p.item()
		if err != api.OK {
			return api.Rex{}, err
		}
		c = class.Join(c, item)
	}
	if others {
		c = class.Not(c)
	}
	isEmpty := c == api.Class{}
	if isEmpty && others {
		return api.Rex{}, api.ErrSyntax
	}
	p.at++
	if isEmpty {
		return node(api.RNone), api.OK // an ITEM would have brought a byte
	}
	return byteOf(c), api.OK
}

func (p *parser) item() (api.Class, api.Errno) {
	lo, err := p.char()
	if err != api.OK || !p.pass('-') {
		return only(lo), err
	}
	start := p.at
	hi, err := p.char()
	if err == api.OK && hi < lo {
		p.at = start
		err = api.ErrSyntax
	}
	return class.Range(int(lo), int(hi)), err
}

func (p *parser) char() (byte, api.Errno) {
	if p.pass('\\') {
		return p.escaped()
	}
	b := p.seen()
	if !isSeen(b) || isSign(b) {
		return 0, api.ErrSyntax
	}
	p.at++
	return b, api.OK
}

// escaped reads what stands behind a backslash.
func (p *parser) escaped() (byte, api.Errno) {
	if p.pass('x') {
		return p.twoDigits()
	}
	b := p.seen()
	if i := strings.IndexByte(blankNames, b); i >= 0 {
		b = blanks[i]
	} else if !isSign(b) {
		return 0, api.ErrSyntax
	}
	p.at++
	return b, api.OK
}

func (p *parser) twoDigits() (byte, api.Errno) {
	var b byte
	for range 2 {
		digit := strings.IndexByte(digits, p.seen())
		if digit < 0 {
			return 0, api.ErrSyntax
		}
		b = b<<digitBits | byte(digit)
		p.at++
	}
	return b, api.OK
}

// isSeen: is b a byte of which texts are made?
func isSeen(b byte) bool { return b >= firstSeen && b <= lastSeen }

// isSign: does b need a backslash, to stand for itself?
func isSign(b byte) bool { return strings.IndexByte(signs, b) >= 0 }

func node(kind int, kids ...api.Rex) api.Rex { return api.Rex{Kind: kind, Kids: kids} }

func byteOf(c api.Class) api.Rex { return api.Rex{Kind: api.RByte, Class: c} }

// only has b alone.
func only(b byte) api.Class { return class.Range(int(b), int(b)) }

// notNewLine has what `.` stands for.
func notNewLine() api.Class { return class.Not(only(newLine)) }
