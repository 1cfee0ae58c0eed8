package expr_test

import (
	"math"
	"slices"
	"strings"
	"testing"

	"cooper/api"
	"cooper/expr"
	"cooper/lex"
)

func num(n int64) api.Term  { return api.Term{Kind: api.ExNum, N: n} }
func sym(s string) api.Term { return api.Term{Kind: api.ExSym, Sym: s} }

// ops are operators.
func ops(kinds ...int) []api.Term {
	var l []api.Term
	for _, k := range kinds {
		l = append(l, api.Term{Kind: k})
	}
	return l
}

// sumOf is an expression of so many terms, an odd number.
func sumOf(terms int) []api.Term {
	l := []api.Term{num(1)}
	for len(l) < terms {
		l = append(append(l, num(1)), ops(api.ExAdd)...)
	}
	return l
}

// tokens are lex's tokens of a text, of which each line's worth is read by itself.
func tokens(t *testing.T, s string) []api.Token {
	t.Helper()
	var l []api.Token
	for len(s) > 0 {
		// No token of the texts that are so long lies across.
		part := s[:min(len(s), 512)]
		s = s[len(part):]
		some, _, e := lex.Lex(part)
		if e != api.OK {
			t.Fatalf("Lex(%q): %d", part, e)
		}
		l = append(l, some...)
	}
	return l
}

// P9.1: which terms, and of how many tokens: operands, groups, and where an expression ends.
func TestParse(t *testing.T) {
	a, b, c := sym("a"), sym("b"), sym("c")
	row := func(l ...[]api.Term) []api.Term { return slices.Concat(l...) }
	one := func(l ...api.Term) []api.Term { return l }
	for _, x := range []struct {
		text string
		want []api.Term
		size int
	}{
		{"1", one(num(1)), 1},
		{"a", one(a), 1},
		{".", one(sym(".")), 1},
		{"'a'", one(num(97)), 1},
		{"9223372036854775807", one(num(math.MaxInt64)), 1},
		{"9223372036854775808", one(num(math.MinInt64)), 1},
		{"18446744073709551615", one(num(-1)), 1},
		{"a + 2 * 3 - b", row(one(a, num(2), num(3)), ops(api.ExMul, api.ExAdd), one(b), ops(api.ExSub)), 7},
		{"1 << 3 | 1", row(one(num(1), num(3)), ops(api.ExShl), one(num(1)), ops(api.ExOr)), 5},
		{"(a)", one(a), 3},
		{"((a))", one(a), 5},
		{"a*(b+c)", row(one(a, b, c), ops(api.ExAdd, api.ExMul)), 7},
		{"(a+b)*c", row(one(a, b), ops(api.ExAdd), one(c), ops(api.ExMul)), 7},
		{"-a", row(one(a), ops(api.ExNeg)), 2},
		{"~-~a", row(one(a), ops(api.ExNot, api.ExNeg, api.ExNot)), 4},
		{"-a*b", row(one(a), ops(api.ExNeg), one(b), ops(api.ExMul)), 4},
		{"-(a*b)", row(one(a, b), ops(api.ExMul, api.ExNeg)), 6},
		{"a--b", row(one(a, b), ops(api.ExNeg, api.ExSub)), 4},
		{"a-~b", row(one(a, b), ops(api.ExNot, api.ExSub)), 4},
		{"a|b^c&a<<b+c*a", row(one(a, b, c, a, b, c, a), ops(api.ExMul, api.ExAdd, api.ExShl, api.ExAnd, api.ExXor, api.ExOr)), 13},
		{"a*b+c<<a&b^c|a", row(one(a, b), ops(api.ExMul), one(c), ops(api.ExAdd), one(a), ops(api.ExShl), one(b), ops(api.ExAnd), one(c), ops(api.ExXor), one(a), ops(api.ExOr)), 13},
		// Where it ends: behind an operand, at what is no operator of two.
		{"a, b", one(a), 1},
		{"a b", one(a), 1},
		{"a 1", one(a), 1},
		{"1 a + b", one(num(1)), 1},
		{"a (b)", one(a), 1},
		{"a ~ b", one(a), 1},
		{"a) + b", one(a), 1},
		{"(a) )", one(a), 3},
		{"a + b]", row(one(a, b), ops(api.ExAdd)), 3},
		{"a ! = #", one(a), 1},
		{"a = b", one(a), 1},
		{"a \"b\"", one(a), 1},
		{"(a) \"+\"", one(a), 3},
	} {
		l := tokens(t, x.text)
		was := slices.Clone(l)
		for range 2 {
			got, n, e := expr.Parse(l...)
			if !slices.Equal(got, x.want) || n != x.size || e != api.OK {
				t.Errorf("Parse(%q): %+v, %d, %d, not %+v, %d", x.text, got, n, e, x.want, x.size)
			}
			clear(got)
		}
		if !slices.Equal(l, was) {
			t.Errorf("Parse(%q) left %+v", x.text, l)
		}
		held(t, l)
	}
}

// P9.1: what is no expression: none that begins, and what has no operand, or no ), behind it.
func TestParseWrong(t *testing.T) {
	for _, s := range []string{
		"", ")", "* 2", "+ 1", "/", "%", "<< 1", ">> 1", "& a", "^ a", "| a", ",", "]", "[", "!", "#1", ":", "=", "\"a\"", "\"\"", "\"1\" + 1",
		"1 +", "1 + ,", "1 + )", "1 + * 2", "1 + + 2", "a - ]", "a *", "a << # 1", "a + \"b\"", "a + b +", "a + b ^ |",
		"(", "()", "(1", "(1, 2)", "(1 2)", "(a ~ b)", "((1)", "(1 + )", "(1 + (2)", "(]", "(\"a\")", "1 + (", "1 + (2", "1 * (2]",
		"-", "~", "- -", "-)", "~*", "-,", "- + 1", "~\"a\"", "1 + -", "1 - ~ )", "(-)", "(1 -)",
	} {
		l := tokens(t, s)
		if got, n, e := expr.Parse(l...); got != nil || n != 0 || e != api.ErrExpr {
			t.Errorf("Parse(%q): %+v, %d, %d", s, got, n, e)
		}
		held(t, l)
	}
}

// P9.1, P9.7: tokens that lex does not tell: a kind that there is none of, a name that is none, a sign's text of another kind.
func TestParseStrange(t *testing.T) {
	long := strings.Repeat("a", 512)
	plus := api.Token{Kind: api.TkSign, Text: "+"}
	one := api.Token{Kind: api.TkNum, N: 1}
	for _, x := range []api.Token{
		{}, {Kind: 5, N: 1}, {Kind: -1, Text: "a"}, {Kind: math.MaxInt}, {Text: "-"}, {Kind: 5, Text: "("},
		{Kind: api.TkName}, {Kind: api.TkName, Text: "1a"}, {Kind: api.TkName, Text: "-"}, {Kind: api.TkName, Text: "("}, {Kind: api.TkName, Text: " a"}, {Kind: api.TkName, Text: long + "a"},
		{Kind: api.TkText, Text: "a"}, {Kind: api.TkText, Text: "~"}, {Kind: api.TkText, N: 1}, {Kind: api.TkSign, Text: "a"}, {Kind: api.TkSign}, {Kind: api.TkSign, Text: "--"}, {Kind: api.TkSign, N: 1},
	} {
		for _, l := range [][]api.Token{{x}, {x, plus, one}, {one, plus, x}} {
			if got, n, e := expr.Parse(l...); got != nil || n != 0 || e != api.ErrExpr {
				t.Errorf("Parse(%.60v): %.60v, %d, %d", l, got, n, e)
			}
		}
	}
	for _, x := range []api.Token{
		{}, {Kind: 5, Text: "+"}, {Kind: -1, Text: "+"}, {Text: "+"}, {Kind: api.TkName, Text: "+"}, {Kind: api.TkText, Text: "+"}, {Kind: api.TkNum, Text: "+"}, {Kind: api.TkSign}, {Kind: api.TkSign, Text: "<"}, {Kind: api.TkSign, Text: "++"},
	} {
		if got, n, e := expr.Parse(one, x, one); len(got) != 1 || n != 1 || e != api.OK {
			t.Errorf("Parse of 1, %+v and 1: %+v, %d, %d", x, got, n, e)
		}
	}
	if got, n, e := expr.Parse(api.Token{Kind: api.TkName, Text: long}); !slices.Equal(got, []api.Term{sym(long)}) || n != 1 || e != api.OK {
		t.Errorf("Parse of a name of 512 bytes: %.60v, %d, %d", got, n, e)
	}
}

// ends holds the error of Parse of a text, and that nothing else comes with one.
func ends(t *testing.T, text string, want api.Errno) {
	t.Helper()
	l := tokens(t, text)
	got, n, e := expr.Parse(l...)
	if e != want || (e != api.OK) != (got == nil && n == 0) {
		t.Errorf("Parse(%q): %d terms, %d, %d, not %d", text, len(got), n, e, want)
	}
	held(t, l)
}

// P9.1: how many (, - and ~ may be open at once, and which error stands first.
func TestParseDepth(t *testing.T) {
	in := strings.Repeat
	for _, x := range []struct {
		text string
		want api.Errno
	}{
		{in("(", 64) + "1" + in(")", 64), api.OK},
		{in("(", 65) + "1" + in(")", 65), api.ErrDepth},
		{in("-", 64) + "1", api.OK},
		{in("-", 65) + "1", api.ErrDepth},
		{in("~", 64) + "a", api.OK},
		{in("~", 65) + "a", api.ErrDepth},
		{in("-(", 32) + "1" + in(")", 32), api.OK},
		{in("-(", 32) + "-1" + in(")", 32), api.ErrDepth},
		{in("(-", 32) + "(1)" + in(")", 32), api.ErrDepth},
		{in("~-", 32) + "1", api.OK},
		{in("~-", 32) + "(1)", api.ErrDepth},
		// A sign is open as long as its operand goes, no longer.
		{in("-", 64) + "1 + " + in("-", 64) + "1", api.OK},
		{in("-", 64) + "1 * " + in("~", 64) + "(1)", api.ErrDepth},
		{in("(", 64) + "1" + in(")", 64) + "*" + in("(", 64) + "1" + in(")", 64), api.OK},
		{in("(", 64) + "1" + in(")", 64) + "*" + in("(", 65) + "1" + in(")", 65), api.ErrDepth},
		{in("(", 63) + "-1 - -2 - (3)" + in(")", 63) + "- -1", api.OK},
		{in("-", 63) + "(1 - -1)", api.ErrDepth},
		{in("-", 62) + "(1 - -1) - -(-1)", api.OK},
		{in("((1)+(1))*", 40) + "1", api.OK},
		{in("(-1)*", 63) + "1", api.OK},
		// The first one that is wrong.
		{in("(", 65), api.ErrDepth},
		{in("(", 65) + ")", api.ErrDepth},
		{in("-", 65), api.ErrDepth},
		{in("(", 64), api.ErrExpr},
		{in("(", 64) + ")" + in("(", 65), api.ErrExpr},
		{in("-", 64), api.ErrExpr},
		{"1 + * " + in("(", 65), api.ErrExpr},
		{"(1 1 " + in("(", 65), api.ErrExpr},
		{"1 + (" + in("-", 64) + "1", api.ErrDepth},
		// What stands behind the expression is nothing to it.
		{"1 1 " + in("(", 65), api.OK},
		{"1 " + in("(", 400), api.OK},
	} {
		ends(t, x.text, x.want)
	}
}

// P9.1: how many terms there may be, and which error stands first.
func TestParseTerms(t *testing.T) {
	in := strings.Repeat
	for _, x := range []struct {
		text string
		want api.Errno
	}{
		{in("1+", 127) + "1", api.OK},       // 255
		{"-" + in("1+", 127) + "1", api.OK}, // 256
		{in("1+", 127) + "~a", api.OK},      // 256
		{in("1+", 128) + "1", api.ErrDepth}, // 257
		{"--" + in("1+", 127) + "1", api.ErrDepth},
		{in("1+", 127) + "~-1", api.ErrDepth},
		{in("a|b^", 64) + "a", api.ErrDepth},
		{"(" + in("1*", 127) + "1)", api.OK},
		{in("(1)-", 127) + "(1)", api.OK},
		{in("(1)-", 128) + "(1)", api.ErrDepth},
		{in("-1+", 85) + "1", api.OK}, // 256
		{in("-1+", 85) + "-1", api.ErrDepth},
		{in("1+", 2000) + "1", api.ErrDepth},
		// The first one that is wrong.
		{in("1+", 129), api.ErrDepth},
		{in("1+", 128), api.ErrExpr},
		{in("1+", 127) + "1 1", api.OK},
		{in("1+", 127) + "1 + 1 +", api.ErrDepth},
		{in("1+", 127) + "1 + )", api.ErrExpr},
		{"(" + in("1+", 127) + "1", api.ErrExpr},
		{"(" + in("1+", 128) + "1", api.ErrDepth},
		{"(" + in("1+", 128) + "1 1", api.ErrDepth},
		{in("1+", 127) + "* 1 + 1 + 1", api.ErrExpr},
		// An operator that nothing stands behind is no term of any expression.
		{"-" + in("1+", 128), api.ErrExpr},
		{"-" + in("1+", 127) + "1 * ,", api.ErrExpr},
		{in("1+", 128) + "- ~ ]", api.ErrExpr},
		// Operators that wait for what they take are terms.
		{in("1+", 125) + "1 | 1 ^ 1 & 1 *", api.ErrDepth},
		{in("1+", 124) + "1 | 1 ^ 1 & 1 *", api.ErrExpr},
		{"1|1^1&1<<1+" + in("1*", 124), api.ErrDepth},
		{"1|1^1&1<<1+" + in("1*", 123), api.ErrExpr},
	} {
		ends(t, x.text, x.want)
	}
}

// P9.1: of tokens that are many more than an expression's.
func TestParseMany(t *testing.T) {
	for _, s := range []string{"(", "-", "1", "1 +", "( 1 +", "1 -", ",", "a ("} {
		l := slices.Repeat(tokens(t, s), 1<<18)
		if got, n, e := expr.Parse(l...); n > 2 || len(got) > 1 || e != api.OK && (n != 0 || got != nil) {
			t.Errorf("Parse of very many %q: %d terms, %d, %d", s, len(got), n, e)
		}
	}
}

// P9.2: what may not be, each wherever it stands; and ErrExpr ahead of ErrDepth.
func TestCheck(t *testing.T) {
	a, one, two := sym("a"), num(1), num(2)
	for _, l := range [][]api.Term{
		{one}, {a}, {num(0)}, {num(math.MinInt64)}, {sym(".")}, {sym("$")}, {sym(strings.Repeat("a", 512))},
		append([]api.Term{one}, ops(api.ExNeg, api.ExNot, api.ExNeg)...),
		append([]api.Term{one, two}, ops(api.ExAdd)...),
		append([]api.Term{one, two, a}, ops(api.ExAdd, api.ExMul)...),
		append([]api.Term{one, two}, ops(api.ExNeg, api.ExOr)...),
		sumOf(255), append(sumOf(255), ops(api.ExNeg)...), slices.Insert(sumOf(255), 1, ops(api.ExNot)...),
		append([]api.Term{one}, slices.Repeat(ops(api.ExNot), 255)...),
		append(slices.Repeat([]api.Term{a}, 128), slices.Repeat(ops(api.ExSub), 127)...),
	} {
		was := slices.Clone(l)
		if e := expr.Check(l...); e != api.OK || !slices.Equal(l, was) {
			t.Errorf("Check(%.80v): %d", l, e)
		}
		checked(t, l)
	}
	for _, l := range [][]api.Term{
		sumOf(257), sumOf(1001), append(sumOf(255), ops(api.ExNeg, api.ExNeg)...), append([]api.Term{one}, slices.Repeat(ops(api.ExNeg), 256)...),
		append(slices.Repeat([]api.Term{a}, 129), slices.Repeat(ops(api.ExSub), 128)...),
	} {
		if e := expr.Check(l...); e != api.ErrDepth {
			t.Errorf("Check of %d terms: %d", len(l), e)
		}
		if e := expr.Check(append(slices.Clone(l), one)...); e != api.ErrExpr {
			t.Errorf("Check of %d terms, of which one is left: %d", len(l)+1, e)
		}
		if e := expr.Check(append(slices.Clone(l), ops(api.ExMul)...)...); e != api.ErrExpr {
			t.Errorf("Check of %d terms, of which the last one lacks one: %d", len(l)+1, e)
		}
		refused(t, l, api.ErrDepth)
	}
	for _, l := range wrong() {
		if e := expr.Check(l...); e != api.ErrExpr {
			t.Errorf("Check(%.80v): %d", l, e)
		}
		checked(t, l)
		refused(t, l, api.ErrExpr)
	}
}

// wrong are terms that are no expression.
func wrong() [][]api.Term {
	a, one, add := sym("a"), num(1), ops(api.ExAdd)[0]
	l := [][]api.Term{
		nil, {}, {one, one}, {a, one, a}, {one, one, one, add}, {add}, {one, add}, {add, one, one}, {one, add, one}, {one, one, add, add},
		slices.Repeat([]api.Term{one}, 256), slices.Repeat([]api.Term{one}, 257), slices.Repeat([]api.Term{add}, 300), slices.Repeat(ops(api.ExNeg), 257),
	}
	for k := api.ExNeg; k <= api.ExOr; k++ {
		l = append(l, ops(k))
		if k > api.ExNot {
			l = append(l, append([]api.Term{one}, ops(k)...))
		} else {
			l = append(l, append([]api.Term{one, one}, ops(k)...))
		}
	}
	for _, x := range wrongTerms() {
		long := sumOf(257)
		long[100] = x
		l = append(l, []api.Term{x}, []api.Term{one, x}, []api.Term{one, one, x}, []api.Term{x, one, add}, []api.Term{one, x, add}, append(sumOf(257), x, add), long)
	}
	return l
}

// wrongTerms are terms that may stand nowhere.
func wrongTerms() []api.Term {
	l := []api.Term{{}, {Kind: -1}, {Kind: 15}, {Kind: math.MaxInt}, {Kind: math.MinInt}, {Kind: 256 + api.ExNum}, {Kind: 0, N: 1}, {Kind: 15, N: 1}, {Kind: -1, Sym: "a"}, {Kind: 0, Sym: "a"}}
	l = append(l, api.Term{Kind: api.ExNum, Sym: "a"}, api.Term{Kind: api.ExNum, N: 1, Sym: "a"}, api.Term{Kind: api.ExNum, Sym: " "})
	l = append(l, api.Term{Kind: api.ExSym, Sym: "a", N: 1}, api.Term{Kind: api.ExSym, Sym: "a", N: math.MinInt64}, api.Term{Kind: api.ExSym, N: 1})
	for _, s := range noSymbols() {
		l = append(l, sym(s))
	}
	for k := api.ExNeg; k <= api.ExOr; k++ {
		l = append(l, api.Term{Kind: k, N: 1}, api.Term{Kind: k, N: -1}, api.Term{Kind: k, Sym: "a"}, api.Term{Kind: k, Sym: "+"}, api.Term{Kind: k, N: 1, Sym: "a"})
	}
	return l
}

// noSymbols are texts that are no symbol's name.
func noSymbols() []string {
	return []string{"", "1", "1a", "0x1", "a b", " a", "a ", "\ta", "a\t", "a\n", "a//", "a//b", "//", "a+b", "-a", "a-", "a,b", "(a)", "#a", "a:", "\"a\"", "'a'", "é", "aé", "a\x00", "\x80", strings.Repeat("a", 513), strings.Repeat("a", 1<<20)}
}

// P9.2 to P9.4: of what Check refuses all calls answer its error, and nothing else.
func refused(t *testing.T, l []api.Term, want api.Errno) {
	t.Helper()
	if v, e := expr.Eval(l...); v != (api.Value{}) || e != want {
		t.Errorf("Eval(%.80v): %.80v, %d", l, v, e)
	}
	if s, e := expr.Text(l...); s != "" || e != want {
		t.Errorf("Text(%.80v): %.80q, %d", l, s, e)
	}
	for s := range expr.Syms(l...) {
		t.Errorf("Syms(%.80v): %q", l, s)
	}
}

// P9.2: which names are a symbol's: those that lex reads as one token, as they stand.
func TestIsSym(t *testing.T) {
	for _, s := range []string{"a", "Z", "_", ".", "$", "x0", ".L1", "..", "a.b$c_9", "lsl", strings.Repeat("a", 511), strings.Repeat("a", 512)} {
		if !expr.IsSym(s) {
			t.Errorf("IsSym(%.60q): no", s)
		}
	}
	for _, s := range noSymbols() {
		if expr.IsSym(s) {
			t.Errorf("IsSym(%.60q): yes", s)
		}
	}
	for i := range 256 {
		for _, s := range []string{string([]byte{byte(i)}), string([]byte{byte(i), 'a'}), string([]byte{'a', byte(i)}), string([]byte{'a', byte(i), 'a'})} {
			l, _, e := lex.Lex(s)
			want := e == api.OK && len(l) == 1 && l[0].Kind == api.TkName && l[0].Text == s
			if expr.IsSym(s) != want {
				t.Errorf("IsSym(%q): %t", s, !want)
			}
		}
	}
}
