package lex_test

import (
	"math"
	"math/rand/v2"
	"slices"
	"strconv"
	"strings"
	"testing"

	"cooper/api"
	"cooper/lex"
)

func one[T any](r *rand.Rand, l ...T) T { return l[r.IntN(len(l))] }

// drawnBytes are up to n bytes of a text.
func drawnBytes(r *rand.Rand, n int, of string) string {
	b := make([]byte, r.IntN(n+1))
	for i := range b {
		b[i] = of[r.IntN(len(of))]
	}
	return string(b)
}

func drawnNumber(r *rand.Rand) uint64 {
	return one(r, 0, 1, 9, 10, math.MaxUint64, 1<<63, r.Uint64()>>r.IntN(64))
}

// drawnToken is one that may be.
func drawnToken(r *rand.Rand) api.Token {
	var t api.Token
	switch r.IntN(4) {
	case 0:
		t = name(one(r, letters[r.IntN(len(letters)):][:1], "x", "b") + drawnBytes(r, 4, letters+digits))
	case 1:
		t = num(drawnNumber(r))
	case 2:
		t = bytes(drawnBytes(r, 5, string(without(""))+"nx0\"\\//"))
	case 3:
		t = sign(one(r, append(allSigns, "/", "/", "/")...))
	}
	return placed(t, r.IntN(600))
}

// drawnText is a piece of a line, mostly one that may be.
func drawnText(r *rand.Rand) string {
	n := drawnNumber(r)
	switch r.IntN(12) {
	case 0:
		return one(r, " ", "\t", "  \t ")
	case 1:
		return drawnBytes(r, 3, string(without("")))
	case 2:
		return "0x" + strconv.FormatUint(n, 16)
	case 3:
		return "0b" + strconv.FormatUint(n, 2)
	case 4:
		return "'" + drawnBytes(r, 1, string(without(""))) + "'"
	case 5:
		return `"` + drawnBytes(r, 3, "ax0\\\"n") + `"`
	case 6:
		return one(r, "//", "<", ">", "0", "0x", "0b", "'", "\"", "\\", strings.Repeat("z", 120))
	}
	return lex.Text(drawnToken(r))
}

// back holds the tokens of a line against those of which it was made.
func back(t *testing.T, l []api.Token) {
	t.Helper()
	line, e := lex.Print(l...)
	if e != api.OK {
		t.Fatalf("Print(%+v): %d", l, e)
	}
	got, at, e := lex.Lex(line)
	if !slices.Equal(unplaced(got), unplaced(l)) || at != len(line) || e != api.OK {
		t.Fatalf("Lex(%q): %+v, %d, %d, not %+v", line, got, at, e, l)
	}
}

// P8.4: Lex of Print are the tokens: each two and each three of these, and drawn ones.
func TestThereAndBack(t *testing.T) {
	all := []api.Token{name("a"), name("x1"), name("b.eq"), name("."), name("$"), num(0), num(1), num(math.MaxUint64), bytes(""), bytes("/"), bytes("\"\\\x00"), bytes("a b")}
	for _, s := range allSigns {
		all = append(all, sign(s))
	}
	back(t, nil)
	for _, a := range all {
		back(t, []api.Token{a})
		for _, b := range all {
			back(t, []api.Token{a, b})
			for _, c := range all {
				back(t, []api.Token{a, b, c})
			}
		}
	}
	r := random()
	for range 20000 {
		var l []api.Token
		for range r.IntN(12) {
			l = append(l, drawnToken(r))
		}
		back(t, l)
	}
}

// P8.4: Unquote of Quote are the bytes, drawn ones; and Lex takes them for one piece.
func TestQuotedAndBack(t *testing.T) {
	r := random()
	for range 20000 {
		s := drawnBytes(r, 60, one(r, string(without("")), "\\\"nx0a", "ab\x00\xff"))
		q := lex.Quote(s)
		if got, e := lex.Unquote(q); got != s || e != api.OK {
			t.Fatalf("Unquote(%s): %q, %d, not %q", q, got, e, s)
		}
		if l, _, e := lex.Lex(q); e != api.OK || !slices.Equal(l, []api.Token{bytes(s)}) {
			t.Fatalf("Lex(%s): %+v, %d, not %q", q, l, e, s)
		}
	}
}

// P8.5: blanks between two tokens, ahead and behind, and what is left out, change no token but its place.
func TestBlanks(t *testing.T) {
	r := random()
	for range 20000 {
		var l []api.Token
		var line strings.Builder
		blanks := func(least int) { line.WriteString(strings.Repeat(one(r, " ", "\t"), least+r.IntN(3))) }
		blanks(0)
		for range r.IntN(10) {
			x := drawnToken(r)
			// Without a blank two of these may be one.
			if len(l) > 0 {
				blanks(1)
			}
			l = append(l, placed(x, line.Len()))
			line.WriteString(lex.Text(x))
		}
		blanks(0)
		if r.IntN(2) == 0 {
			// A sign / right ahead would begin what is left out a byte sooner, and be no token.
			line.WriteString(" //" + drawnBytes(r, 20, string(without(""))))
		}
		got, at, e := lex.Lex(line.String())
		if !slices.Equal(got, l) || at != line.Len() || e != api.OK {
			t.Fatalf("Lex(%q): %+v, %d, %d, not %+v", line.String(), got, at, e, l)
		}
	}
}

// P8.6: Tokens are Lex's, and begin at rising places, also ahead of what is wrong.
func TestBeginning(t *testing.T) {
	r := random()
	for range 20000 {
		var b strings.Builder
		for range r.IntN(12) {
			b.WriteString(drawnText(r))
		}
		line := b.String()
		got := slices.Collect(lex.Tokens(line))
		l, at, e := lex.Lex(line)
		if e == api.OK && !slices.Equal(got, l) {
			t.Fatalf("Tokens(%q): %+v, not %+v", line, got, l)
		}
		// Of what stands ahead of the piece that is wrong, Lex has just these.
		if e != api.OK {
			if l, _, e := lex.Lex(line[:at]); e != api.OK || !slices.Equal(got, l) {
				t.Fatalf("Tokens(%q): %+v, not %+v, %d", line, got, l, e)
			}
		}
		for i, x := range got {
			if lex.Check(x) != api.OK || x.At >= len(line) || i > 0 && x.At <= got[i-1].At {
				t.Fatalf("Tokens(%q): %+v", line, got)
			}
		}
	}
}
