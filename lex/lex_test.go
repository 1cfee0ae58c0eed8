package lex_test

import (
	"math"
	"math/rand/v2"
	"slices"
	"strconv"
	"strings"
	"testing"

	"cooper/api"
	"cooper/lex"
)

func name(s string) api.Token  { return api.Token{Kind: api.TkName, Text: s} }
func num(n uint64) api.Token   { return api.Token{Kind: api.TkNum, N: n} }
func bytes(s string) api.Token { return api.Token{Kind: api.TkText, Text: s} }
func sign(s string) api.Token  { return api.Token{Kind: api.TkSign, Text: s} }

// placed is a token at a place.
func placed(t api.Token, at int) api.Token {
	t.At = at
	return t
}

// unplaced are tokens without their places.
func unplaced(l []api.Token) []api.Token {
	all := slices.Clone(l)
	for i := range all {
		all[i].At = 0
	}
	return all
}

// without is all bytes but those of a text.
func without(s string) []byte {
	var all []byte
	for i := range 256 {
		if strings.IndexByte(s, byte(i)) < 0 {
			all = append(all, byte(i))
		}
	}
	return all
}

const (
	letters = "abcdefghijklmnopqrstuvwxyzABCDEFGHIJKLMNOPQRSTUVWXYZ_.$"
	digits  = "0123456789"
)

// P8.1: Name: letters ahead, letters and digits behind, of any length; and what is none.
func TestName(t *testing.T) {
	long := strings.Repeat("a", 1<<20)
	for _, s := range []string{"a", "Z", "_", ".", "$", "x0", ".L$1", "b.eq", "_9", "...", "add", letters, letters + digits, long} {
		if !lex.Name(s) {
			t.Errorf("%.40q is no name", s)
		}
	}
	for _, s := range []string{"", "1a", "0", "9", "a-b", "a b", " a", "a ", "a\t", "a\n", "a:", "\"a\"", "'a'", "#a", "a//", "é", "aé", "a\x00", long + "-", "-" + long} {
		if lex.Name(s) {
			t.Errorf("%.40q is a name", s)
		}
	}
	for i := range len(letters) {
		for j := range len(letters + digits) {
			if s := letters[i:i+1] + (letters + digits)[j:j+1]; !lex.Name(s) {
				t.Errorf("%q is no name", s)
			}
		}
	}
	for _, b := range without(letters) {
		if s := string([]byte{b}); lex.Name(s) || lex.Name(s+"a") {
			t.Errorf("%q, or with an a behind, is a name", s)
		}
	}
	for _, b := range without(letters + digits) {
		if s := "a" + string([]byte{b}); lex.Name(s) || lex.Name(s+"a") {
			t.Errorf("%q, or with an a behind, is a name", s)
		}
	}
}

// wrong are tokens that may not be.
func wrong() []api.Token {
	l := []api.Token{
		{},
		{Kind: -1}, {Kind: 5}, {Kind: math.MaxInt}, {Kind: math.MinInt}, {Kind: 256 + api.TkNum},
		{Kind: 0, Text: "a"}, {Kind: 5, Text: "a"}, {Kind: 5, Text: ","}, {Kind: -1, N: 1},
		{Kind: api.TkName}, {Kind: api.TkSign},
		{Kind: api.TkNum, Text: "0"}, {Kind: api.TkNum, Text: "7", N: 7}, {Kind: api.TkNum, Text: " "},
		bytes(strings.Repeat("a", 513)), bytes(strings.Repeat("\x00", 513)), bytes(strings.Repeat("a", 1<<20)),
		{Kind: api.TkName, Text: "a", N: 1}, {Kind: api.TkSign, Text: ",", N: 1}, {Kind: api.TkText, Text: "a", N: 1},
		{Kind: api.TkName, Text: "a", N: math.MaxUint64}, {Kind: api.TkText, N: 1 << 63},
	}
	for _, s := range []string{"1a", "a-b", "a ", " a", "9", "+", "\"a\"", "a\x00"} {
		l = append(l, name(s))
	}
	for _, s := range []string{"<", ">", "<<<", ">>>", "<>", "><", "==", ",,", "//", "+-", " ", ", ", " ,", "\t", ";", "@", "{", "}", "?", "`", "'", "\"", "\\", "a", "0", "_", ".", "$", "\n", "\x00", "\x7f", "\x80", "\xff", "é", "()"} {
		l = append(l, sign(s))
	}
	for _, t := range []api.Token{name("a"), num(1), bytes("a"), sign(",")} {
		l = append(l, placed(t, -1), placed(t, math.MinInt))
	}
	return l
}

// P8.1: Check and Text of what may not be.
func TestWrong(t *testing.T) {
	for _, x := range wrong() {
		if e := lex.Check(x); e != api.ErrArg {
			t.Errorf("Check(%.60q of kind %d, %d at %d): %d", x.Text, x.Kind, x.N, x.At, e)
		}
		if s := lex.Text(x); s != "" {
			t.Errorf("Text(%.60q of kind %d, %d at %d): %q", x.Text, x.Kind, x.N, x.At, s)
		}
	}
}

// P8.1: Check and Text of what may be.
func TestText(t *testing.T) {
	long, nothing := strings.Repeat("a", 1<<16), strings.Repeat("\x00", 512)
	for _, c := range []struct {
		token api.Token
		want  string
	}{
		{name("x0"), "x0"},
		{name(".L$1"), ".L$1"},
		{name(long), long},
		{num(0), "0"},
		{num(7), "7"},
		{num(10), "10"},
		{num(1 << 63), "9223372036854775808"},
		{num(math.MaxUint64), "18446744073709551615"},
		{bytes(""), `""`},
		{bytes("a b"), `"a b"`},
		{bytes("a\"\\\n\xff"), `"a\"\\\n\xff"`},
		{bytes(long[:512]), `"` + long[:512] + `"`},
		{bytes(nothing), `"` + strings.Repeat(`\0`, 512) + `"`},
	} {
		for _, at := range []int{0, 1, 600, math.MaxInt} {
			x := placed(c.token, at)
			if e := lex.Check(x); e != api.OK {
				t.Errorf("Check(%.60q of kind %d, %d at %d): %d", x.Text, x.Kind, x.N, at, e)
			}
			if s := lex.Text(x); s != c.want {
				t.Errorf("Text(%.60q of kind %d, %d at %d): %.60q", x.Text, x.Kind, x.N, at, s)
			}
		}
	}
	for _, s := range strings.Fields(", [ ] ! # : + - * / % & | ^ ~ ( ) = << >>") {
		if e, text := lex.Check(sign(s)), lex.Text(sign(s)); e != api.OK || text != s {
			t.Errorf("the sign %q: Check %d, Text %q", s, e, text)
		}
	}
}

// P8.1: no byte is a sign but those of the form, and no two but << and >>.
func TestSigns(t *testing.T) {
	ones := ",[]!#:+-*/%&|^~()="
	for i := range 256 {
		s := string([]byte{byte(i)})
		if is := lex.Check(sign(s)) == api.OK; is != strings.Contains(ones, s) {
			t.Errorf("the sign %q: %t", s, is)
		}
		for j := range 256 {
			two := s + string([]byte{byte(j)})
			if is := lex.Check(sign(two)) == api.OK; is != (two == "<<" || two == ">>") {
				t.Errorf("the sign %q: %t", two, is)
			}
		}
	}
}

// byteForm is a byte within quotes, as the document has it.
func byteForm(b byte) string {
	switch b {
	case 10:
		return `\n`
	case 9:
		return `\t`
	case 13:
		return `\r`
	case 0:
		return `\0`
	case 92:
		return `\\`
	case 34:
		return `\"`
	}
	if b >= 32 && b <= 126 {
		return string([]byte{b})
	}
	return `\x` + string([]byte{"0123456789abcdef"[b/16], "0123456789abcdef"[b%16]})
}

// P8.1, P8.4: Quote of each byte, alone and beside others, and back.
func TestQuote(t *testing.T) {
	if s := lex.Quote(""); s != `""` {
		t.Errorf("Quote of nothing: %s", s)
	}
	all, forms := "", ""
	for i := range 256 {
		s, form := string([]byte{byte(i)}), byteForm(byte(i))
		all, forms = all+s, forms+form
		for _, around := range []string{"", "a", "7", "\\", "0"} {
			want := around
			if around == "\\" {
				want = `\\`
			}
			want = `"` + want + form + want + `"`
			if got := lex.Quote(around + s + around); got != want {
				t.Errorf("Quote(%q): %s, not %s", around+s+around, got, want)
			}
		}
		if got, e := lex.Unquote(`"` + form + `"`); got != s || e != api.OK {
			t.Errorf("Unquote of %s: %q, %d", form, got, e)
		}
	}
	if got := lex.Quote(all); got != `"`+forms+`"` {
		t.Errorf("Quote of all bytes: %s", got)
	}
	if got, e := lex.Unquote(`"` + forms + `"`); got != all || e != api.OK {
		t.Errorf("Unquote of all bytes: %q, %d", got, e)
	}
	long := strings.Repeat(all, 1<<12)
	if got, e := lex.Unquote(lex.Quote(long)); got != long || e != api.OK {
		t.Errorf("Unquote of Quote of %d bytes: %d of them, %d", len(long), len(got), e)
	}
}

// P8.1: Unquote: both cases of hexadecimal digits, and each byte as it stands, or behind a \.
func TestUnquote(t *testing.T) {
	const hexDigits = digits + "abcdefABCDEF"
	for i := range 256 {
		b := string([]byte{byte(i)})
		got, e := lex.Unquote(`"` + b + `"`)
		if may := i >= 32 && i <= 126 && b != `"` && b != `\`; may && (got != b || e != api.OK) || !may && (got != "" || e != api.ErrQuote) {
			t.Errorf("Unquote of %q: %q, %d", b, got, e)
		}
		got, e = lex.Unquote(`"\` + b + `"`)
		short := strings.Index("ntr0\\\"", b)
		if short >= 0 && (got != "\n\t\r\x00\\\""[short:short+1] || e != api.OK) || short < 0 && (got != "" || e != api.ErrQuote) {
			t.Errorf("Unquote of %q behind a backslash: %q, %d", b, got, e)
		}
		for j := range 256 {
			s := `"a\x` + b + string([]byte{byte(j)}) + `b"`
			if got, e := lex.Unquote(s); strings.Contains(hexDigits, b) && strings.IndexByte(hexDigits, byte(j)) >= 0 {
				v, _ := strconv.ParseUint(s[4:6], 16, 8)
				if got != "a"+string([]byte{byte(v)})+"b" || e != api.OK {
					t.Errorf("Unquote(%q): %q, %d", s, got, e)
				}
			} else if got != "" || e != api.ErrQuote {
				t.Errorf("Unquote(%q): %q, %d", s, got, e)
			}
		}
	}
}

// P8.1: Unquote of what is not just one piece of quotes.
func TestNoQuotes(t *testing.T) {
	for _, s := range []string{
		"", "a", `"`, `a"`, `"a`, `""a`, `a""`, `"" `, ` ""`, `"a""b"`, `"a" "b"`, `""""`, `"""`, `"\"`, `"\`, `"\\\"`, `"\x"`, `"\x`, `"\x4`, `"\x4"`, `"\x41`, `"\xg0"`, `"\x0g"`, `"\x+1"`, `"\x 1"`, `"\x_1"`, `"\X41"`, `"\xx41"`,
		`"\q"`, `"\N"`, `"\a"`, `"\'"`, `"\1"`, `"\00`, "\"\n\"", "\"\t\"", "\"\x00\"", "\"\x7f\"", "\"\x80\"", "\"é\"", "'a'", "''", `""//`, "\"a\"\n",
	} {
		if got, e := lex.Unquote(s); got != "" || e != api.ErrQuote {
			t.Errorf("Unquote(%q): %q, %d", s, got, e)
		}
	}
	for s, want := range map[string]string{`""`: "", `"a"`: "a", `"\\"`: `\`, `"\""`: `"`, `"\\\""`: `\"`, `"\00"`: "\x000", `"\x41\0\"\\"`: "A\x00\"\\", `"//"`: "//", `"'"`: "'", `"\x4A\xfF"`: "J\xff"} {
		if got, e := lex.Unquote(s); got != want || e != api.OK {
			t.Errorf("Unquote(%q): %q, %d", s, got, e)
		}
	}
}

// P8.2: the document's example, and lines with their tokens and places.
func TestLex(t *testing.T) {
	for _, c := range []struct {
		line string
		want []api.Token
	}{
		{"", nil},
		{" \t ", nil},
		{"//", nil},
		{" // a ; \x00 \n \" '", nil},
		{"ldr x0, [x1, #0x10]!", []api.Token{
			name("ldr"), placed(name("x0"), 4), placed(sign(","), 6), placed(sign("["), 8), placed(name("x1"), 9), placed(sign(","), 11),
			placed(sign("#"), 13), placed(num(16), 14), placed(sign("]"), 18), placed(sign("!"), 19),
		}},
		{"a//b", []api.Token{name("a")}},
		{"a/ /b", []api.Token{name("a"), placed(sign("/"), 1), placed(sign("/"), 3), placed(name("b"), 4)}},
		{"a /\t", []api.Token{name("a"), placed(sign("/"), 2)}},
		{"1///2", []api.Token{num(1)}},
		{`"//"//"`, []api.Token{bytes("//")}},
		{"'/'//'", []api.Token{num(47)}},
		{`"a"b"c"`, []api.Token{bytes("a"), placed(name("b"), 3), placed(bytes("c"), 4)}},
		{`""""`, []api.Token{bytes(""), placed(bytes(""), 2)}},
		{"'a''b'", []api.Token{num(97), placed(num(98), 3)}},
		{"a'b'", []api.Token{name("a"), placed(num(98), 1)}},
		{"5'b'", []api.Token{num(5), placed(num(98), 1)}},
		{`' '" "`, []api.Token{num(32), placed(bytes(" "), 3)}},
		{"'\"'\"'\"", []api.Token{num(34), placed(bytes("'"), 3)}},
		{"'~'", []api.Token{num(126)}},
		{"a.b:c$_", []api.Token{name("a.b"), placed(sign(":"), 3), placed(name("c$_"), 4)}},
		{"<<>><<<<", []api.Token{sign("<<"), placed(sign(">>"), 2), placed(sign("<<"), 4), placed(sign("<<"), 6)}},
		{"\ta\t1 ", []api.Token{placed(name("a"), 1), placed(num(1), 3)}},
		{"-1", []api.Token{sign("-"), placed(num(1), 1)}},
		{"==", []api.Token{sign("="), placed(sign("="), 1)}},
	} {
		// What was answered first is written over: the second answer is the same.
		for range 2 {
			l, at, e := lex.Lex(c.line)
			if !slices.Equal(l, c.want) || at != len(c.line) || e != api.OK {
				t.Errorf("Lex(%q): %+v, %d, %d", c.line, l, at, e)
			}
			clear(l)
		}
		held(t, c.line)
	}
}

// P8.2: the place and the error of the first piece that is wrong.
func TestLexWrong(t *testing.T) {
	for _, c := range []struct {
		line string
		at   int
		want api.Errno
	}{
		{";", 0, api.ErrToken}, {"a ;", 2, api.ErrToken}, {"a<b", 1, api.ErrToken}, {"a > b", 2, api.ErrToken}, {"<<<", 2, api.ErrToken}, {">", 0, api.ErrToken},
		{"a\n", 1, api.ErrToken}, {"\n", 0, api.ErrToken}, {"\r", 0, api.ErrToken}, {"\x00", 0, api.ErrToken}, {"a\x7f", 1, api.ErrToken}, {"é", 0, api.ErrToken}, {"\\", 0, api.ErrToken}, {"@{?`", 0, api.ErrToken},
		{"1a", 0, api.ErrNum}, {"1.", 0, api.ErrNum}, {"1_0", 0, api.ErrNum}, {"1$", 0, api.ErrNum}, {"x 00", 2, api.ErrNum}, {"01", 0, api.ErrNum}, {"007", 0, api.ErrNum}, {"08", 0, api.ErrNum},
		{"0x", 0, api.ErrNum}, {"0b", 0, api.ErrNum}, {"0x,", 0, api.ErrNum}, {"0b 1", 0, api.ErrNum}, {"0b12", 0, api.ErrNum}, {"0b1a", 0, api.ErrNum}, {"0xg", 0, api.ErrNum}, {"0x1g", 0, api.ErrNum}, {"0x1.", 0, api.ErrNum}, {"0x_1", 0, api.ErrNum}, {"0x1_0", 0, api.ErrNum}, {"1_000", 0, api.ErrNum},
		{"0X1", 0, api.ErrNum}, {"0B1", 0, api.ErrNum}, {"0o7", 0, api.ErrNum}, {"00x1", 0, api.ErrNum},
		{"''", 0, api.ErrNum}, {"'", 0, api.ErrNum}, {"'a", 0, api.ErrNum}, {"'ab'", 0, api.ErrNum}, {"'''", 0, api.ErrNum}, {"'\\'", 0, api.ErrNum}, {"'\\n'", 0, api.ErrNum}, {"'\t'", 0, api.ErrNum}, {"'\x7f'", 0, api.ErrNum}, {"'\x1f'", 0, api.ErrNum}, {"'é'", 0, api.ErrNum},
		{"'a'b", 0, api.ErrNum}, {"'a'1", 0, api.ErrNum}, {"'a'_", 0, api.ErrNum}, {"a 'a'.", 2, api.ErrNum},
		{"\"", 0, api.ErrQuote}, {"a\"b", 1, api.ErrQuote}, {"\"\\q\"", 0, api.ErrQuote}, {"\"\\\"", 0, api.ErrQuote}, {"\"\t\"", 0, api.ErrQuote}, {"\"\n\"", 0, api.ErrQuote}, {"\"é\"", 0, api.ErrQuote}, {"\"\\x4\"", 0, api.ErrQuote}, {"\"\\xg1\"", 0, api.ErrQuote}, {"\"//", 0, api.ErrQuote},
		{"; 1a \"", 0, api.ErrToken}, {"a 1a ; \"", 2, api.ErrNum}, {"a \" 1a ;", 2, api.ErrQuote}, {"a / ; // b", 4, api.ErrToken},
	} {
		if l, at, e := lex.Lex(c.line); l != nil || at != c.at || e != c.want {
			t.Errorf("Lex(%q): %+v, %d, %d", c.line, l, at, e)
		}
		held(t, c.line)
	}
}

// P8.2: numbers at their edges.
func TestNumbers(t *testing.T) {
	ones := strings.Repeat("1", 64)
	for s, want := range map[string]uint64{
		"0": 0, "9": 9, "10": 10, "18446744073709551615": math.MaxUint64, "9223372036854775808": 1 << 63,
		"0x0": 0, "0x00": 0, "0xaF": 175, "0xFFFFFFFFFFFFFFFF": math.MaxUint64, "0xffffffffffffffff": math.MaxUint64, "0x000000000000000000001": 1, "0x0123456789abcdef": 0x0123456789abcdef, "0xb1": 177,
		"0b0": 0, "0b101": 5, "0b" + ones: math.MaxUint64, "0b000" + ones: math.MaxUint64, "0b00": 0,
		"'A'": 65, "' '": 32, "'~'": 126, "'\"'": 34, "'0'": 48,
	} {
		if l, at, e := lex.Lex(s); e != api.OK || at != len(s) || !slices.Equal(l, []api.Token{num(want)}) {
			t.Errorf("Lex(%q): %+v, %d, %d", s, l, at, e)
		}
		held(t, s)
	}
	for _, s := range []string{"18446744073709551616", "18446744073709551625", "99999999999999999999", "100000000000000000000", "0x10000000000000000", "0x1ffffffffffffffff", "0b1" + ones, "0b10" + ones[1:], strings.Repeat("9", 512), "0x1" + strings.Repeat("0", 509)} {
		if l, at, e := lex.Lex(s); l != nil || at != 0 || e != api.ErrNum {
			t.Errorf("Lex(%q): %+v, %d, %d", s, l, at, e)
		}
		held(t, s)
	}
}

// P8.2: lines of just as many bytes as there may be, and of one more, whatever stands in them.
func TestLong(t *testing.T) {
	for _, s := range []string{"a", " ", ";", "\"", ",", "a,", "/", "0", "\n", "\x00"} {
		line := strings.Repeat(s, 513)
		held(t, line[:511])
		held(t, line[:512])
		for _, long := range []string{line[:513], strings.Repeat(s, 1<<16)} {
			if l, at, e := lex.Lex(long); l != nil || at != 0 || e != api.ErrLong {
				t.Errorf("Lex of %d bytes %q: %+v, %d, %d", len(long), s, l, at, e)
			}
			for x := range lex.Tokens(long) {
				t.Errorf("Tokens of %d bytes %q: %+v", len(long), s, x)
			}
		}
	}
	if l, at, e := lex.Lex(strings.Repeat("/", 512)); l != nil || at != 512 || e != api.OK {
		t.Errorf("Lex of 512 bytes that are left out: %+v, %d, %d", l, at, e)
	}
}

// P8.2: a range over Tokens may stop at any point, and be done again; two go on beside each other.
func TestTokensStop(t *testing.T) {
	for _, line := range []string{"ldr x0, [x1, #0x10]! // and so on", "a, b \"c\" 7 ;", "a 00 b"} {
		s := lex.Tokens(line)
		want, _, _ := ruledPart(line)
		for stop := 1; stop <= len(want); stop++ {
			var got []api.Token
			for x := range s {
				if got = append(got, x); len(got) == stop {
					break
				}
			}
			if !slices.Equal(got, want[:stop]) {
				t.Errorf("Tokens(%q), stopped behind %d: %+v", line, stop, got)
			}
		}
		for range s {
			if got := slices.Collect(s); !slices.Equal(got, want) {
				t.Errorf("Tokens(%q) within itself: %+v", line, got)
			}
		}
	}
}

// P8.3: where blanks stand between two tokens.
func TestPrint(t *testing.T) {
	for _, c := range []struct {
		want string
		l    []api.Token
	}{
		{"", nil},
		{"a", []api.Token{name("a")}},
		{"a b", []api.Token{name("a"), name("b")}},
		{"a 1", []api.Token{name("a"), num(1)}},
		{"1 a", []api.Token{num(1), name("a")}},
		{"1 2", []api.Token{num(1), num(2)}},
		{`a"b"`, []api.Token{name("a"), bytes("b")}},
		{`"b"a`, []api.Token{bytes("b"), name("a")}},
		{`1"b"2`, []api.Token{num(1), bytes("b"), num(2)}},
		{`"a""b"`, []api.Token{bytes("a"), bytes("b")}},
		{`"/""/"`, []api.Token{bytes("/"), bytes("/")}},
		{`"/"/"/"`, []api.Token{bytes("/"), sign("/"), bytes("/")}},
		{"a,1", []api.Token{name("a"), sign(","), num(1)}},
		{"/", []api.Token{sign("/")}},
		{"/ /", []api.Token{sign("/"), sign("/")}},
		{"/ / /", []api.Token{sign("/"), sign("/"), sign("/")}},
		{"/*/", []api.Token{sign("/"), sign("*"), sign("/")}},
		{"a/b", []api.Token{name("a"), sign("/"), name("b")}},
		{"<<<<>>", []api.Token{sign("<<"), sign("<<"), sign(">>")}},
		{"--==", []api.Token{sign("-"), sign("-"), sign("="), sign("=")}},
		{"ldr x0,[x1,#16]!", []api.Token{name("ldr"), placed(name("x0"), 9), sign(","), placed(sign("["), 2), name("x1"), sign(","), sign("#"), placed(num(16), math.MaxInt), sign("]"), sign("!")}},
		{`"\0\n\xff"`, []api.Token{bytes("\x00\n\xff")}},
	} {
		l := slices.Clone(c.l)
		if s, e := lex.Print(l...); s != c.want || e != api.OK {
			t.Errorf("Print(%+v): %q, %d, not %q", c.l, s, e, c.want)
		}
		if !slices.Equal(l, c.l) {
			t.Errorf("Print(%+v) left %+v", c.l, l)
		}
	}
}

// P8.3: a token that may not be, wherever it stands, also in a line that is too long; a line of just as many bytes as there may be, and of one more.
func TestPrintWrong(t *testing.T) {
	full, over := name(strings.Repeat("a", 512)), name(strings.Repeat("a", 513))
	for _, x := range wrong() {
		for _, l := range [][]api.Token{{x}, {x, name("a")}, {name("a"), x}, {over, x}, {x, over}, {full, full, x}} {
			if s, e := lex.Print(l...); s != "" || e != api.ErrArg {
				t.Errorf("Print of %d tokens with %.60q of kind %d: %.60q, %d", len(l), x.Text, x.Kind, s, e)
			}
		}
	}
	half := name(strings.Repeat("a", 256))
	for _, l := range [][]api.Token{{full}, {name(half.Text[:255]), half}, {half, num(math.MaxUint64), name(half.Text[:234])}, {bytes(full.Text[:510])}, {bytes(strings.Repeat("\n", 255))}, slices.Repeat([]api.Token{sign(",")}, 512)} {
		if s, e := lex.Print(l...); len(s) != 512 || e != api.OK {
			t.Errorf("Print of %d tokens: %q, %d", len(l), s, e)
		}
		if s, e := lex.Print(append(slices.Clone(l), sign("!"))...); s != "" || e != api.ErrLong {
			t.Errorf("Print of %d tokens and a sign: %q, %d", len(l), s, e)
		}
	}
	for _, l := range [][]api.Token{{over}, {half, half}, {bytes(full.Text)}, {bytes(full.Text[:511])}, {bytes(strings.Repeat("\xff", 128))}, slices.Repeat([]api.Token{sign("/")}, 257), slices.Repeat([]api.Token{name("a")}, 1<<18)} {
		if s, e := lex.Print(l...); s != "" || e != api.ErrLong {
			t.Errorf("Print of %d tokens: %.60q, %d", len(l), s, e)
		}
	}
}

func random() *rand.Rand { return rand.New(rand.NewPCG(8, 1)) }
