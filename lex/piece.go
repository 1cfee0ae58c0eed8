package lex

import (
	"iter"
	"strconv"
	"strings"

	"cooper/api"
)

// class are kinds of bytes.
type class int

const (
	blank class = 1 << iota
	letter
	digit
	tick  // around a byte whose code is a number
	quote // around bytes
	other
)

const (
	tickByte  = '\''
	quoteByte = '"'
	backslash = '\\'

	slash   = "/"
	remark  = slash + slash // what is left out begins with it
	signs   = ",[]!#:+-*/%&|^~()="
	longest = 2 // bytes of the longest sign
)

// has tells whether a byte is of one of the kinds.
func (c class) has(b byte) bool { return c&classOf(b) != 0 }

func classOf(b byte) class {
	switch {
	case b >= 'a' && b <= 'z', b >= 'A' && b <= 'Z', b == '_', b == '.', b == '$':
		return letter
	case b >= '0' && b <= '9':
		return digit
	case b == ' ', b == '\t':
		return blank
	case b == tickByte:
		return tick
	case b == quoteByte:
		return quote
	}
	return other
}

// stands tells whether a byte may stand, as it is, between two of around.
func stands(b, around byte) bool {
	return b >= 32 && b <= 126 && b != backslash && b != around
}

// isSign tells whether a text is a sign.
func isSign(s string) bool {
	return s == "<<" || s == ">>" || len(s) == 1 && strings.Contains(signs, s)
}

// piece is a token and how many bytes of the line it takes, or what is wrong where it begins.
type piece struct {
	token api.Token
	size  int
	wrong api.Errno
}

// rest is what is left of a line.
type rest string

// kind is the bytes with which a piece begins, and how it is read.
type kind struct {
	begins func(byte) bool
	read   func(rest) piece
}

func kinds() []kind {
	return []kind{
		{letter.has, rest.name},
		{(digit | tick).has, rest.number},
		{quote.has, rest.quotes},
		{other.has, rest.sign},
	}
}

// pieces goes through a line's pieces, up to the first one that is wrong.
func pieces(line string) iter.Seq[piece] {
	return func(yield func(piece) bool) {
		all := kinds()
		for at := rest(line).skipped(); at < len(line); at += rest(line[at:]).skipped() {
			p := rest(line[at:]).piece(all)
			p.token.At = at
			if !yield(p) || p.wrong != api.OK {
				return
			}
			at += p.size
		}
	}
}

// piece is the one with which r begins.
func (r rest) piece(all []kind) piece {
	for _, k := range all {
		if k.begins(r[0]) {
			return k.read(r)
		}
	}
	return piece{wrong: api.ErrToken}
}

// skipped is how many bytes stand ahead of the next piece.
func (r rest) skipped() int {
	n := r.count(blank.has)
	if strings.HasPrefix(string(r[n:]), remark) {
		return len(r)
	}
	return n
}

// count is with how many bytes of a kind r begins.
func (r rest) count(is func(byte) bool) int {
	for i := range len(r) {
		if !is(r[i]) {
			return i
		}
	}
	return len(r)
}

// copied is a token's text, apart from its line.
func (r rest) copied(n int) string { return strings.Clone(string(r[:n])) }

func (r rest) name() piece {
	n := r.count((letter | digit).has)
	return piece{token: api.Token{Kind: api.TkName, Text: r.copied(n)}, size: n}
}

func (r rest) number() piece {
	v, n, ok := r.digits()
	if r[0] == tickByte {
		v, n, ok = r.code()
	}
	if !ok {
		return piece{wrong: api.ErrNum}
	}
	return piece{token: api.Token{Kind: api.TkNum, N: v}, size: n}
}

// digits is the number of digits with which r begins, and how many bytes it has.
func (r rest) digits() (uint64, int, bool) {
	// Whatever letter or digit stands right behind a number is wrong: so all of them are it, or it is none.
	n := r.count((letter | digit).has)
	digits, base := string(r[:n]), 10
	switch {
	case strings.HasPrefix(digits, "0x"):
		digits, base = digits[2:], 16
	case strings.HasPrefix(digits, "0b"):
		digits, base = digits[2:], 2
	case n > 1 && digits[0] == '0':
		return 0, 0, false
	}
	v, err := strconv.ParseUint(digits, base, 64)
	return v, n, err == nil
}

// code is that of a byte between two ticks, and how many bytes these are.
func (r rest) code() (uint64, int, bool) {
	const size = 3
	if len(r) < size || r[2] != tickByte || !stands(r[1], tickByte) {
		return 0, 0, false
	}
	if len(r) > size && (letter | digit).has(r[size]) {
		return 0, 0, false
	}
	return uint64(r[1]), size, true
}

func (r rest) quotes() piece {
	s, n, ok := unquoted(string(r))
	if !ok {
		return piece{wrong: api.ErrQuote}
	}
	return piece{token: api.Token{Kind: api.TkText, Text: s}, size: n}
}

func (r rest) sign() piece {
	for n := min(longest, len(r)); n > 0; n-- {
		if isSign(string(r[:n])) {
			return piece{token: api.Token{Kind: api.TkSign, Text: r.copied(n)}, size: n}
		}
	}
	return piece{wrong: api.ErrToken}
}
