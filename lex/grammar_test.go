package lex_test

import (
	"math/big"
	"regexp"
	"slices"
	"strconv"
	"strings"
	"testing"

	"cooper/api"
	"cooper/lex"
)

// The document's form, written down a second time.
var (
	nameForm   = regexp.MustCompile(`^[a-zA-Z_.$][a-zA-Z_.$0-9]*`)
	tailForm   = regexp.MustCompile(`^[a-zA-Z_.$0-9]`)
	numberForm = longest(`^(0|[1-9][0-9]*|0x[0-9a-fA-F]+|0b[01]+|'[ -&(-\[\]-~]')`)
	quotesForm = regexp.MustCompile(`^"([ !#-\[\]-~]|\\[ntr0\\"]|\\x[0-9a-fA-F][0-9a-fA-F])*"`)
	blanksForm = regexp.MustCompile(`^[ \t]+`)
)

// allSigns are all signs, the longest ones first.
var allSigns = strings.Fields(`<< >> , [ ] ! # : + - * / % & | ^ ~ ( ) =`)

func longest(form string) *regexp.Regexp {
	r := regexp.MustCompile(form)
	r.Longest()
	return r
}

// ruled is what the document says of a line.
func ruled(line string) ([]api.Token, int, api.Errno) {
	if len(line) > 512 {
		return nil, 0, api.ErrLong
	}
	l, at, e := ruledPart(line)
	if e != api.OK {
		return nil, at, e
	}
	return l, len(line), api.OK
}

// ruledPart are the tokens ahead of the first piece that is wrong, where that is, and what is wrong.
func ruledPart(line string) ([]api.Token, int, api.Errno) {
	var l []api.Token
	for at := 0; at < len(line); {
		s := line[at:]
		if strings.HasPrefix(s, "//") {
			break
		}
		if b := blanksForm.FindString(s); b != "" {
			at += len(b)
			continue
		}
		t, n, e := ruledPiece(s)
		if e != api.OK {
			return l, at, e
		}
		t.At = at
		l = append(l, t)
		at += n
	}
	return l, len(line), api.OK
}

func ruledPiece(s string) (api.Token, int, api.Errno) {
	if name := nameForm.FindString(s); name != "" {
		return api.Token{Kind: api.TkName, Text: name}, len(name), api.OK
	}
	if strings.IndexByte("0123456789'", s[0]) >= 0 {
		n := numberForm.FindString(s)
		v := value(n)
		if n == "" || tailForm.MatchString(s[len(n):]) || !v.IsUint64() {
			return api.Token{}, 0, api.ErrNum
		}
		return api.Token{Kind: api.TkNum, N: v.Uint64()}, len(n), api.OK
	}
	if s[0] == '"' {
		q := quotesForm.FindString(s)
		if q == "" {
			return api.Token{}, 0, api.ErrQuote
		}
		// Go has the same forms, but of the byte 0.
		text, err := strconv.Unquote(zeros(q))
		if err != nil {
			panic(q)
		}
		return api.Token{Kind: api.TkText, Text: text}, len(q), api.OK
	}
	for _, sign := range allSigns {
		if strings.HasPrefix(s, sign) {
			return api.Token{Kind: api.TkSign, Text: sign}, len(sign), api.OK
		}
	}
	return api.Token{}, 0, api.ErrToken
}

// value is the number that a text of numberForm tells.
func value(n string) *big.Int {
	v := new(big.Int)
	switch {
	case n == "":
	case n[0] == '\'':
		v.SetInt64(int64(n[1]))
	case len(n) > 2 && n[1] == 'x':
		v.SetString(n[2:], 16)
	case len(n) > 2 && n[1] == 'b':
		v.SetString(n[2:], 2)
	default:
		v.SetString(n, 10)
	}
	return v
}

// zeros are quotes with \x00 for \0.
func zeros(q string) string {
	var b strings.Builder
	for i := 0; i < len(q); i++ {
		b.WriteByte(q[i])
		if q[i] != '\\' {
			continue
		}
		if i++; q[i] == '0' {
			b.WriteString("x00")
		} else {
			b.WriteByte(q[i])
		}
	}
	return b.String()
}

// held holds what Lex and Tokens answer of a line against the document.
func held(t *testing.T, line string) {
	t.Helper()
	want, wantAt, wantE := ruled(line)
	l, at, e := lex.Lex(line)
	if !slices.Equal(l, want) || at != wantAt || e != wantE || e != api.OK && l != nil {
		t.Fatalf("Lex(%q): %+v, %d, %d, not %+v, %d, %d", line, l, at, e, want, wantAt, wantE)
	}
	want = nil
	if len(line) <= 512 {
		want, _, _ = ruledPart(line)
	}
	if got := slices.Collect(lex.Tokens(line)); !slices.Equal(got, want) {
		t.Fatalf("Tokens(%q): %+v, not %+v", line, got, want)
	}
}

// P8.1, P8.2, P8.6: lines of one byte, of two, and each byte ahead of and behind pieces.
func TestBytes(t *testing.T) {
	held(t, "")
	pieces := []string{"a", "a9", "0", "7", "0x", "0x1", "0b", "0b1", "'", "'a", "'a'", `"`, `"a"`, `"\`, `"\x4`, "<", "<<", ">", "/", " ", "\t", "a //"}
	for i := range 256 {
		a := string([]byte{byte(i)})
		held(t, a)
		for j := range 256 {
			held(t, a+string([]byte{byte(j)}))
		}
		for _, p := range pieces {
			held(t, a+p)
			held(t, p+a)
			held(t, p+a+`"`)
			held(t, p+a+"'")
			held(t, "x + "+p+a+" ;")
		}
	}
}

// P8.2: all lines of up to four of these bytes, and of five of fewer.
func TestShort(t *testing.T) {
	var each func(alphabet, line string, left int)
	each = func(alphabet, line string, left int) {
		held(t, line)
		if left == 0 {
			return
		}
		for i := range len(alphabet) {
			each(alphabet, line+alphabet[i:i+1], left-1)
		}
	}
	each("aGxb_019 \t\n'\"\\</+,", "", 4)
	each("x01b'\"\\/", "", 5)
}

// P8.2, P8.6: drawn lines: pieces and bytes one behind the other.
func TestDrawn(t *testing.T) {
	r := random()
	for range 60000 {
		var line strings.Builder
		for range r.IntN(10) {
			line.WriteString(drawnText(r))
		}
		held(t, line.String())
	}
}
