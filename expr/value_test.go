package expr_test

import (
	"math"
	"slices"
	"strings"
	"testing"
	"unsafe"

	"cooper/api"
	"cooper/expr"
)

// P9.3: what expressions come to, and with P9.4 how that is written.
func TestEval(t *testing.T) {
	const most = "9223372036854775807"
	for s, want := range map[string]string{
		"0": "0", "7": "7", "a": "a", "18446744073709551615": "-1", "-0": "0",
		"a + 2 * 3 - b": "a-b+6", "1 << 3 | 1": "9",
		// Numbers.
		"2 + 3": "5", "2 - 3": "-1", most + " + 1": "-9223372036854775808", "-" + most + " - 2": most,
		"-5": "-5", "- -5": "5", "-9223372036854775808": "-9223372036854775808",
		"~0": "-1", "~5": "-6", "~-1": "0", "~" + most: "-9223372036854775808",
		"6 * 7": "42", "-6 * 7": "-42", "4294967296 * 4294967296": "0", most + " * 2": "-2", most + " * " + most: "1",
		"7 / 2": "3", "-7 / 2": "-3", "7 / -2": "-3", "-7 / -2": "3", "0 / 5": "0", "1 / 2": "0", "0x8000000000000000 / -1": "-9223372036854775808", "0xffffffffffffffff / 2": "0",
		"7 % 2": "1", "-7 % 2": "-1", "7 % -2": "1", "-7 % -2": "-1", "0x8000000000000000 % -1": "0", "5 % 7": "5",
		"1 << 0": "1", "1 << 63": "-9223372036854775808", "3 << 63": "-9223372036854775808", "2 << 63": "0", "-1 << 4": "-16",
		"256 >> 4": "16", "-1 >> 0": "-1", "-1 >> 1": most, "-1 >> 63": "1", "0x8000000000000000 >> 62": "2", "1 >> 63": "0",
		"12 & 10": "8", "-1 & 10": "10", "12 ^ 10": "6", "-1 ^ 10": "-11", "12 | 10": "14", "-16 | 5": "-11",
		// Symbols.
		"a + 1": "a+1", "1 + a": "a+1", "a - 1": "a-1", "1 - a": "0-a+1", "-a": "0-a", "- -a": "a", "-(a - b)": "b-a", "-(a + 1)": "0-a-1",
		"a - a": "0", "a - a + 4": "4", "a - b": "a-b", "a - b + b": "a", "a - b - (a - b)": "0", "a - b + (b - c)": "a-c", "b - c + (a - b)": "a-c", "0 - a + a": "0", "0 - a + b": "b-a", "b - (a + 1)": "b-a-1",
		"a - b + (b - a)": "0", "a - (a - b)": "b", "(a - a) * 3": "0", "~(a - a + 1)": "-2", "1 << (a - a + 3)": "8", "(a + 4 - a) / (b - b + 2)": "2", "a + (2 * 3 & 6)": "a+6",
		". + 4": ".+4", "x0 - .": "x0-.",
	} {
		x, n, e := expr.Parse(tokens(t, s)...)
		if n != len(tokens(t, s)) || e != api.OK {
			t.Fatalf("Parse(%q): %d, %d", s, n, e)
		}
		was := slices.Clone(x)
		v, e := expr.Eval(x...)
		if got, f := expr.Print(v); got != want || e != api.OK || f != api.OK || !slices.Equal(x, was) {
			t.Errorf("%q: %+v, %q, %d, %d, not %q", s, v, got, e, f, want)
		}
		evaled(t, x)
	}
}

// P9.3: the first error in the order of the terms, and nothing else with it.
func TestEvalWrong(t *testing.T) {
	for s, want := range map[string]api.Errno{
		"a + b": api.ErrSyms, "a + a": api.ErrSyms, "0 - a - b": api.ErrSyms, "-a - a": api.ErrSyms, "a - b - c": api.ErrSyms, "a - b + c": api.ErrSyms, "a - b + (a - c)": api.ErrSyms, "a - b + (c - b)": api.ErrSyms, "a + b - b": api.ErrSyms, "a - b + (a - b)": api.ErrSyms,
		"~a": api.ErrSyms, "~(a - b)": api.ErrSyms, "~(0 - a)": api.ErrSyms, "a * 2": api.ErrSyms, "2 * a": api.ErrSyms, "a * 1": api.ErrSyms, "0 * a": api.ErrSyms, "(0 - a) * 2": api.ErrSyms, "2 * (0 - a)": api.ErrSyms, "a * b": api.ErrSyms,
		"a / 2": api.ErrSyms, "2 / a": api.ErrSyms, "a % 2": api.ErrSyms, "2 % a": api.ErrSyms, "a << 1": api.ErrSyms, "1 << a": api.ErrSyms, "a >> 1": api.ErrSyms, "1 >> a": api.ErrSyms, "a & 1": api.ErrSyms, "1 & a": api.ErrSyms, "a ^ 1": api.ErrSyms, "1 ^ a": api.ErrSyms, "a | 1": api.ErrSyms, "1 | a": api.ErrSyms,
		"1 / 0": api.ErrZero, "1 % 0": api.ErrZero, "0 / 0": api.ErrZero, "0 % 0": api.ErrZero, "1 / (2 - 2)": api.ErrZero, "1 / (a - a)": api.ErrZero,
		"1 << 64": api.ErrRange, "1 >> 64": api.ErrRange, "1 << -1": api.ErrRange, "1 >> -1": api.ErrRange, "0 << 64": api.ErrRange, "0 >> 0x8000000000000000": api.ErrRange, "1 << 9223372036854775807": api.ErrRange, "1 << (1 << 32)": api.ErrRange, "1 >> 256": api.ErrRange,
		// Symbols are asked ahead of numbers.
		"a / 0": api.ErrSyms, "a % 0": api.ErrSyms, "a << 64": api.ErrSyms, "a >> -1": api.ErrSyms,
		// The first one.
		"1 / 0 + a * 2": api.ErrZero, "a * 2 + 1 / 0": api.ErrSyms, "1 << 64 | 1 / 0": api.ErrRange, "1 / 0 | 1 << 64": api.ErrZero, "(1 / 0) << a": api.ErrZero, "a + (1 << 64) + b": api.ErrRange, "a + b + (1 << 64)": api.ErrSyms,
	} {
		x, _, e := expr.Parse(tokens(t, s)...)
		if e != api.OK {
			t.Fatalf("Parse(%q): %d", s, e)
		}
		if v, e := expr.Eval(x...); v != (api.Value{}) || e != want {
			t.Errorf("Eval(%q): %+v, %d, not %d", s, v, e, want)
		}
		evaled(t, x)
	}
}

// P9.3, P9.6: Add and Neg of all values of a few names, also such as are no symbol's.
func TestAdd(t *testing.T) {
	var all []api.Value
	names := []string{"", "a", "b", "1 +"}
	for _, p := range names {
		for _, m := range names {
			for _, n := range []int64{0, 1, -5, math.MaxInt64, math.MinInt64} {
				all = append(all, api.Value{Add: n, Plus: p, Minus: m})
			}
		}
	}
	for _, a := range all {
		n := expr.Neg(a)
		if want := (api.Value{Add: -a.Add, Plus: a.Minus, Minus: a.Plus}); n != want {
			t.Errorf("Neg(%+v): %+v", a, n)
		}
		if v, e := expr.Add(a, n); v != (api.Value{}) || e != api.OK {
			t.Errorf("Add(%+v) and its Neg: %+v, %d", a, v, e)
		}
		for _, b := range all {
			v, e := expr.Add(a, b)
			if want, wantE := ruledAdd(a, b); v != want || e != wantE {
				t.Errorf("Add(%+v, %+v): %+v, %d, not %+v, %d", a, b, v, e, want, wantE)
			}
			if w, f := expr.Add(b, a); v != w || e != f {
				t.Errorf("Add(%+v, %+v): %+v, %d, but %+v, %d the other way round", a, b, v, e, w, f)
			}
			if a.Plus+a.Minus+b.Plus+b.Minus == "" && (e != api.OK || v != api.Value{Add: a.Add + b.Add}) {
				t.Errorf("Add(%d, %d): %+v, %d", a.Add, b.Add, v, e)
			}
		}
	}
	for _, c := range []struct {
		a, b, want api.Value
		e          api.Errno
	}{
		{api.Value{Plus: "a", Minus: "a", Add: 3}, api.Value{Add: 4}, api.Value{Add: 7}, api.OK},
		{api.Value{Plus: "a", Minus: "a"}, api.Value{Plus: "a", Add: 4}, api.Value{Plus: "a", Add: 4}, api.OK},
		{api.Value{Plus: "a", Minus: "a"}, api.Value{Plus: "b", Minus: "b"}, api.Value{}, api.OK},
		{api.Value{Plus: "a", Minus: "a"}, api.Value{Minus: "a"}, api.Value{Minus: "a"}, api.OK},
		{api.Value{Plus: "a", Minus: "b"}, api.Value{Plus: "b", Minus: "a", Add: 1}, api.Value{Add: 1}, api.OK},
		{api.Value{Plus: "a", Minus: "b"}, api.Value{Plus: "b", Minus: "b"}, api.Value{Plus: "a", Minus: "b"}, api.OK},
		{api.Value{Plus: "a"}, api.Value{Minus: "b", Add: 1}, api.Value{Plus: "a", Minus: "b", Add: 1}, api.OK},
		{api.Value{Plus: "a"}, api.Value{Plus: "a", Add: 1}, api.Value{}, api.ErrSyms},
		{api.Value{Minus: "a", Add: 1}, api.Value{Minus: "b"}, api.Value{}, api.ErrSyms},
		{api.Value{Plus: "a", Minus: "b"}, api.Value{Plus: "b", Minus: "c"}, api.Value{Plus: "a", Minus: "c"}, api.OK},
		{api.Value{Plus: "a", Minus: "b"}, api.Value{Plus: "a"}, api.Value{}, api.ErrSyms},
		{api.Value{Add: math.MaxInt64}, api.Value{Add: 1}, api.Value{Add: math.MinInt64}, api.OK},
	} {
		if v, e := expr.Add(c.a, c.b); v != c.want || e != c.e {
			t.Errorf("Add(%+v, %+v): %+v, %d, not %+v, %d", c.a, c.b, v, e, c.want, c.e)
		}
	}
}

// P9.4: how values are written.
func TestPrint(t *testing.T) {
	long := strings.Repeat("a", 512)
	for _, c := range []struct {
		v    api.Value
		want string
	}{
		{api.Value{}, "0"},
		{api.Value{Add: 7}, "7"},
		{api.Value{Add: -7}, "-7"},
		{api.Value{Add: math.MaxInt64}, "9223372036854775807"},
		{api.Value{Add: math.MinInt64}, "-9223372036854775808"},
		{api.Value{Plus: "a"}, "a"},
		{api.Value{Plus: ".", Add: 4}, ".+4"},
		{api.Value{Plus: "a", Add: 1}, "a+1"},
		{api.Value{Plus: "a", Add: -1}, "a-1"},
		{api.Value{Plus: "a", Add: math.MaxInt64}, "a+9223372036854775807"},
		{api.Value{Plus: "a", Add: math.MinInt64}, "a-9223372036854775808"},
		{api.Value{Minus: "b"}, "0-b"},
		{api.Value{Minus: "b", Add: 3}, "0-b+3"},
		{api.Value{Minus: "b", Add: -3}, "0-b-3"},
		{api.Value{Minus: "b", Add: math.MinInt64}, "0-b-9223372036854775808"},
		{api.Value{Plus: "a", Minus: "b"}, "a-b"},
		{api.Value{Plus: "a", Minus: "b", Add: 6}, "a-b+6"},
		{api.Value{Plus: "a", Minus: "b", Add: -6}, "a-b-6"},
		{api.Value{Plus: long, Minus: long[1:], Add: 6}, long + "-" + long[1:] + "+6"},
	} {
		if s, e := expr.Print(c.v); s != c.want || e != api.OK {
			t.Errorf("Print(%+v): %q, %d, not %q", c.v, s, e, c.want)
		}
	}
	for _, x := range noSymbols() {
		for _, v := range []api.Value{{Plus: x}, {Minus: x}, {Plus: "a", Minus: x}, {Plus: x, Minus: "a", Add: 1}, {Plus: x, Minus: x}} {
			if x == "" {
				continue
			}
			if s, e := expr.Print(v); s != "" || e != api.ErrExpr {
				t.Errorf("Print(%.60v): %.60q, %d", v, s, e)
			}
		}
	}
	for _, x := range []string{"a", ".", "x0", long} {
		for _, n := range []int64{0, 1, -1} {
			if s, e := expr.Print(api.Value{Plus: x, Minus: x, Add: n}); s != "" || e != api.ErrExpr {
				t.Errorf("Print of %.60q less itself: %.60q, %d", x, s, e)
			}
		}
	}
}

// P9.4: how expressions are written, and how deep.
func TestText(t *testing.T) {
	in := strings.Repeat
	a, b := sym("a"), sym("b")
	neg, not := ops(api.ExNeg), ops(api.ExNot)
	for _, c := range []struct {
		l    []api.Term
		want string
	}{
		{[]api.Term{num(0)}, "0"},
		{[]api.Term{num(math.MaxInt64)}, "9223372036854775807"},
		{[]api.Term{num(-1)}, "0xffffffffffffffff"},
		{[]api.Term{num(-16)}, "0xfffffffffffffff0"},
		{[]api.Term{num(math.MinInt64)}, "0x8000000000000000"},
		{[]api.Term{sym(".")}, "."},
		{append([]api.Term{num(-1), sym("q")}, ops(api.ExSub, api.ExNeg)...), "(-(0xffffffffffffffff-q))"},
		{append([]api.Term{a}, neg...), "(-a)"},
		{append([]api.Term{a}, not...), "(~a)"},
		{append([]api.Term{num(5)}, slices.Concat(neg, not, neg)...), "(-(~(-5)))"},
		{append([]api.Term{a, b, num(1)}, ops(api.ExAdd, api.ExMul)...), "(a*(b+1))"},
		{[]api.Term{a, b, {Kind: api.ExAdd}, num(1), {Kind: api.ExMul}}, "((a+b)*1)"},
		{[]api.Term{a, {Kind: api.ExNeg}, b, {Kind: api.ExNot}, {Kind: api.ExShr}}, "((-a)>>(~b))"},
		{append([]api.Term{a}, slices.Repeat(neg, 64)...), in("(-", 64) + "a" + in(")", 64)},
		{append([]api.Term{a, b}, slices.Repeat(ops(api.ExAdd), 1)...), "(a+b)"},
	} {
		was := slices.Clone(c.l)
		if s, e := expr.Text(c.l...); s != c.want || e != api.OK || !slices.Equal(c.l, was) {
			t.Errorf("Text(%+v): %q, %d, not %q", c.l, s, e, c.want)
		}
		written(t, c.l)
	}
	for k, sign := range map[int]string{api.ExMul: "*", api.ExDiv: "/", api.ExMod: "%", api.ExAdd: "+", api.ExSub: "-", api.ExShl: "<<", api.ExShr: ">>", api.ExAnd: "&", api.ExXor: "^", api.ExOr: "|"} {
		left := []api.Term{num(7)}
		for range 64 {
			left = append(left, b, api.Term{Kind: k})
		}
		right := slices.Concat(slices.Repeat([]api.Term{b}, 64), []api.Term{num(7)}, slices.Repeat(ops(k), 64))
		for _, c := range []struct {
			l    []api.Term
			want string
		}{
			{append([]api.Term{a, num(2)}, ops(k)...), "(a" + sign + "2)"},
			{left, in("(", 64) + "7" + in(sign+"b)", 64)},
			{right, in("(b"+sign, 64) + "7" + in(")", 64)},
		} {
			if s, e := expr.Text(c.l...); s != c.want || e != api.OK {
				t.Errorf("Text(%+v): %q, %d, not %q", c.l, s, e, c.want)
			}
		}
		for _, l := range [][]api.Term{slices.Concat(left, []api.Term{b}, ops(k)), slices.Concat([]api.Term{a}, right, ops(k)), slices.Concat(left, neg)} {
			if s, e := expr.Text(l...); s != "" || e != api.ErrDepth {
				t.Errorf("Text of one too deep with %s: %q, %d", sign, s, e)
			}
		}
	}
	for _, l := range [][]api.Term{append([]api.Term{a}, slices.Repeat(not, 65)...), append([]api.Term{a}, slices.Repeat(neg, 255)...), sumOf(131), sumOf(255)} {
		if s, e := expr.Text(l...); s != "" || e != api.ErrDepth {
			t.Errorf("Text of %d terms: %q, %d", len(l), s, e)
		}
	}
	if s, e := expr.Text(sumOf(129)...); s != in("(", 64)+"1"+in("+1)", 64) || e != api.OK {
		t.Errorf("Text of 129 terms: %q, %d", s, e)
	}
}

// P9.4: Syms: in order, as often as they stand there; as they were when it was asked for; stopped, and done again.
func TestSyms(t *testing.T) {
	l := []api.Term{sym("b"), sym("a"), {Kind: api.ExSub}, num(1), {Kind: api.ExAdd}, sym("b"), {Kind: api.ExNeg}, {Kind: api.ExMul}, sym("."), {Kind: api.ExOr}}
	want := []string{"b", "a", "b", "."}
	s := expr.Syms(l...)
	for i := range l {
		l[i] = sym("z")
	}
	for range 2 {
		if got := slices.Collect(s); !slices.Equal(got, want) {
			t.Errorf("Syms: %q", got)
		}
	}
	for stop := 1; stop <= len(want); stop++ {
		var got []string
		for x := range s {
			if got = append(got, x); len(got) == stop {
				break
			}
		}
		if !slices.Equal(got, want[:stop]) {
			t.Errorf("Syms, stopped behind %d: %q", stop, got)
		}
	}
	for range s {
		if got := slices.Collect(s); !slices.Equal(got, want) {
			t.Errorf("Syms within itself: %q", got)
		}
	}
	if got := slices.Collect(expr.Syms(num(1))); len(got) != 0 {
		t.Errorf("Syms of a number: %q", got)
	}
	if got := slices.Collect(expr.Syms(sym("a"))); !slices.Equal(got, []string{"a"}) {
		t.Errorf("Syms of a: %q", got)
	}
}

// shared tells whether two texts stand in the same memory.
func shared(a, b string) bool { return unsafe.StringData(a) == unsafe.StringData(b) }

// What is answered is in memory of its own.
func TestOwn(t *testing.T) {
	p, m := strings.Repeat("p", 9), strings.Repeat("m", 9)
	token, v := api.Token{Kind: api.TkName, Text: p}, api.Value{Plus: p, Minus: m}
	l, _, _ := expr.Parse(token)
	text, _ := expr.Text(sym(p))
	line, _ := expr.Print(api.Value{Plus: p})
	if shared(l[0].Sym, p) || shared(text, p) || shared(line, p) {
		t.Error("a name is its token's, its term's or its value's")
	}
	for s := range expr.Syms(sym(p)) {
		if shared(s, p) {
			t.Error("Syms: a name is its term's")
		}
	}
	one, _ := expr.Eval(sym(p))
	sum, _ := expr.Add(v, api.Value{})
	other, _ := expr.Add(api.Value{Add: 1}, v)
	neg := expr.Neg(v)
	if shared(one.Plus, p) || shared(sum.Plus, p) || shared(sum.Minus, m) || shared(other.Plus, p) || shared(other.Minus, m) || shared(neg.Plus, m) || shared(neg.Minus, p) {
		t.Error("a value's name is the one that was handed in")
	}
}
