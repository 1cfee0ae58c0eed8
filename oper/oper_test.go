package oper_test

import (
	"math"
	"slices"
	"strings"
	"testing"

	"cooper/alias"
	"cooper/api"
	"cooper/dec"
	"cooper/lex"
	"cooper/names"
	"cooper/oper"
)

// reg is the register of a name.
func reg(s string) api.Reg {
	r, e := names.Reg(s)
	if e != api.OK {
		panic(s)
	}
	return r
}

func register(s string) api.Oper         { return api.Oper{Kind: api.OrReg, R: reg(s)} }
func num(v api.Value) api.Oper           { return api.Oper{Kind: api.OrNum, V: v} }
func place(v api.Value) api.Oper         { return api.Oper{Kind: api.OrTo, V: v} }
func named(kind int, n int64) api.Oper   { return api.Oper{Kind: kind, N: n} }
func symbol(s string, n int64) api.Value { return api.Value{Add: n, Plus: s} }
func number(n int64) api.Value           { return api.Value{Add: n} }

// with is an operand that is shifted or extended.
func with(o api.Oper, mod, amt int) api.Oper {
	o.Mod, o.Amt = mod, amt
	return o
}

// low is an operand of whose value the lowest bits count.
func low(o api.Oper) api.Oper {
	o.Lo = true
	return o
}

func memory(base string, mode int, v api.Value) api.Oper {
	return api.Oper{Kind: api.OrMem, R: reg(base), Mode: mode, V: v}
}

func indexed(base, m string, mod, amt int) api.Oper {
	return api.Oper{Kind: api.OrMem, R: reg(base), Mode: api.MmReg, M: reg(m), Mod: mod, Amt: amt}
}

// line is a line's text, its operands, and these as a text.
type line struct {
	text  string
	opers []api.Oper
	back  string
}

func lines() []line {
	l := []line{
		{"", nil, ""},
		// P10.3: the document's examples.
		{"x0, [x1, w2, sxtw #3]", []api.Oper{register("x0"), indexed("x1", "w2", api.ModSxtw, 3)}, "x0, [x1, w2, sxtw #3]"},
		{"x0,x0,:lo12:v + 4", []api.Oper{register("x0"), register("x0"), low(num(symbol("v", 4)))}, "x0, x0, :lo12:v+4"},
		// Registers.
		{"x30, w0, xzr, wzr, sp, wsp", []api.Oper{register("x30"), register("w0"), register("xzr"), register("wzr"), register("sp"), register("wsp")}, "x30, w0, xzr, wzr, sp, wsp"},
		{"x1, lsl #0", []api.Oper{with(register("x1"), api.ModLsl, 0)}, "x1, lsl #0"},
		{"sp , lsr # 63 , w2 , asr # 8 / 4", []api.Oper{with(register("sp"), api.ModLsr, 63), with(register("w2"), api.ModAsr, 2)}, "sp, lsr #63, w2, asr #2"},
		{"w1, ror #a-a+1", []api.Oper{with(register("w1"), api.ModRor, 1)}, "w1, ror #1"},
		{"w1, uxtb, w1, uxth #0, x1, uxtx #63, x1, sxtx", []api.Oper{with(register("w1"), api.ModUxtb, 0), with(register("w1"), api.ModUxth, 0), with(register("x1"), api.ModUxtx, 63), with(register("x1"), api.ModSxtx, 0)}, "w1, uxtb, w1, uxth, x1, uxtx #63, x1, sxtx"},
		// Numbers.
		{"#1, 2, #-3, -4, #(5), ~5, ' '", []api.Oper{num(number(1)), num(number(2)), num(number(-3)), num(number(-4)), num(number(5)), num(number(-6)), num(number(32))}, "#1, #2, #-3, #-4, #5, #-6, #32"},
		{"#1, lsl #12, #a, lsl #0", []api.Oper{with(num(number(1)), api.ModLsl, 12), with(num(symbol("a", 0)), api.ModLsl, 0)}, "#1, lsl #12, #a, lsl #0"},
		{"#a-b, #x0, #-eq", []api.Oper{num(api.Value{Plus: "a", Minus: "b"}), num(symbol("x0", 0)), num(api.Value{Minus: "eq"})}, "#a-b, #x0, #0-eq"},
		{"#0x8000000000000000, a - a + 5", []api.Oper{num(number(math.MinInt64)), num(number(5))}, "#-9223372036854775808, #5"},
		{":lo12:1, :lo12:x0, : lo12 : a-b-1", []api.Oper{low(num(number(1))), low(num(symbol("x0", 0))), low(num(api.Value{Add: -1, Plus: "a", Minus: "b"}))}, ":lo12:1, :lo12:x0, :lo12:a-b-1"},
		// Places.
		{"a, ., .L1 - 4, 4+a, lo12, X0, w31, x", []api.Oper{place(symbol("a", 0)), place(symbol(".", 0)), place(symbol(".L1", -4)), place(symbol("a", 4)), place(symbol("lo12", 0)), place(symbol("X0", 0)), place(symbol("w31", 0)), place(symbol("x", 0))}, "a, ., .L1-4, a+4, lo12, X0, w31, x"},
		{"-a, -x0, a-x0, 5 - eq", []api.Oper{place(api.Value{Minus: "a"}), place(api.Value{Minus: "x0"}), place(api.Value{Plus: "a", Minus: "x0"}), place(api.Value{Add: 5, Minus: "eq"})}, "0-a, 0-x0, a-x0, 0-eq+5"},
		// Names.
		{"eq, hs, lo, nv, oshld, sy, pldl1keep, pstl3strm", []api.Oper{named(api.OrCond, 0), named(api.OrCond, 2), named(api.OrCond, 3), named(api.OrCond, 15), named(api.OrBar, 1), named(api.OrBar, 15), named(api.OrPrf, 0), named(api.OrPrf, 21)}, "eq, cs, cc, nv, oshld, sy, pldl1keep, pstl3strm"},
		{"nzcv, s3_3_c4_c2_0, s2_0_c0_c0_0, s3_7_c15_c15_7, spsel, daifset, pan, dit", []api.Oper{named(api.OrSys, 23056), named(api.OrSys, 23056), named(api.OrSys, 0), named(api.OrSys, 32767), named(api.OrSys, 16912), named(api.OrFld, 1), named(api.OrFld, 3), named(api.OrFld, 5)}, "nzcv, nzcv, s2_0_c0_c0_0, s3_7_c15_c15_7, spsel, daifset, pan, dit"},
		// Memory.
		{"[x1], [sp,#0], [x1,#a], [x1,#-8], [x1], a", []api.Oper{memory("x1", 0, number(0)), memory("sp", 0, number(0)), memory("x1", 0, symbol("a", 0)), memory("x1", 0, number(-8)), memory("x1", 0, number(0)), place(symbol("a", 0))}, "[x1], [sp], [x1, #a], [x1, #-8], [x1], a"},
		{"[x1, :lo12:a+8], [x1, :lo12:0], [x1], :lo12:0", []api.Oper{low(memory("x1", 0, symbol("a", 8))), low(memory("x1", 0, number(0))), memory("x1", 0, number(0)), low(num(number(0)))}, "[x1, :lo12:a+8], [x1, :lo12:0], [x1], :lo12:0"},
		{"[x1,#0]!, #1, [sp], #0, #1, [x30], #a-b", []api.Oper{memory("x1", api.MmPre, number(0)), num(number(1)), memory("sp", api.MmPost, number(0)), num(number(1)), memory("x30", api.MmPost, api.Value{Plus: "a", Minus: "b"})}, "[x1, #0]!, #1, [sp], #0, #1, [x30], #a-b"},
		{"[x1, x2], #1, [sp, xzr], [x1, x2, lsl #0], [x1, xzr, lsl #63]", []api.Oper{indexed("x1", "x2", api.ModLsl, -1), num(number(1)), indexed("sp", "xzr", api.ModLsl, -1), indexed("x1", "x2", api.ModLsl, 0), indexed("x1", "xzr", api.ModLsl, 63)}, "[x1, x2], #1, [sp, xzr], [x1, x2, lsl #0], [x1, xzr, lsl #63]"},
		{"[x1, x2, sxtx], [x1, x2, sxtx #0], [x1, x2, sxtx #1+2]", []api.Oper{indexed("x1", "x2", api.ModSxtx, -1), indexed("x1", "x2", api.ModSxtx, 0), indexed("x1", "x2", api.ModSxtx, 3)}, "[x1, x2, sxtx], [x1, x2, sxtx #0], [x1, x2, sxtx #3]"},
		{"[x1, w2, uxtw], [x1, wzr, sxtw], [x1, w2, uxtw #0], [x1, w2, sxtw #63]", []api.Oper{indexed("x1", "w2", api.ModUxtw, -1), indexed("x1", "wzr", api.ModSxtw, -1), indexed("x1", "w2", api.ModUxtw, 0), indexed("x1", "w2", api.ModSxtw, 63)}, "[x1, w2, uxtw], [x1, wzr, sxtw], [x1, w2, uxtw #0], [x1, w2, sxtw #63]"},
		// As many as there may be: what follows a , within an operand is none more.
		{"1,2,3,4,5,6,7,8", []api.Oper{num(number(1)), num(number(2)), num(number(3)), num(number(4)), num(number(5)), num(number(6)), num(number(7)), num(number(8))}, "#1, #2, #3, #4, #5, #6, #7, #8"},
	}
	seven, opers := "a, b, a, b, a, b, a, ", []api.Oper(nil)
	for _, s := range strings.Fields("a b a b a b a") {
		opers = append(opers, place(symbol(s, 0)))
	}
	return append(l,
		line{seven + "x0, lsl #1", append(slices.Clip(opers), with(register("x0"), api.ModLsl, 1)), seven + "x0, lsl #1"},
		line{seven + "#1, lsl #1", append(slices.Clip(opers), with(num(number(1)), api.ModLsl, 1)), seven + "#1, lsl #1"},
		line{seven + "[x0], #1", append(slices.Clip(opers), memory("x0", api.MmPost, number(1))), seven + "[x0], #1"},
		line{seven + "[x0, x1, lsl #1]", append(slices.Clip(opers), indexed("x0", "x1", api.ModLsl, 1)), seven + "[x0, x1, lsl #1]"},
	)
}

// P10.2, P10.3: which operands lines have, and their text; what is handed in stays, and what is answered is nobody's else.
func TestLines(t *testing.T) {
	for _, x := range lines() {
		l := tokens(t, x.text)
		was := slices.Clone(l)
		for range 2 {
			got, e := oper.List(l...)
			if !slices.Equal(got, x.opers) || e != api.OK {
				t.Errorf("List(%q): %+v, %d, not %+v", x.text, got, e, x.opers)
			}
			clear(got)
		}
		given := slices.Clone(x.opers)
		if s, e := oper.Text(given...); s != x.back || e != api.OK {
			t.Errorf("Text(%+v): %q, %d, not %q", given, s, e, x.back)
		}
		if !slices.Equal(l, was) || !slices.Equal(given, x.opers) {
			t.Errorf("%q was changed", x.text)
		}
		for _, o := range x.opers {
			checked(t, o)
		}
		written(t, x.opers)
		held(t, l)
	}
}

// P10.3: what is wrong with tokens that are no operands.
func TestListWrong(t *testing.T) {
	eight := "1,2,3,4,5,6,7,8"
	for want, l := range map[api.Errno][]string{
		api.ErrOper: {
			// What begins no operand, and what stands behind one.
			",", "x0,", ",x0", "x0,,x1", "!", "]", ")", "*", "+1", "=", "<<", "\"a\"", "x0, \"\"", "a, )", "[x1], *",
			"x0 x1", "a b", "1 2", "eq ne", "x0 + 1", "eq + 1", "x0-x0", "#1]", "#1!", ":lo12:a]", "[x1] x2", "[x1]]", "a!", "x0: a",
			"nop", "lsl", "uxtw", "sevl", "x0, lsr", "nop + a",
			// Places that begin with a reserved name.
			"(x0)", "0+x0", "a-a+x0", "(x0)-a", "(eq)", "(lsl)", "(nop)", "(nzcv)", "(s3_3_c4_c2_0)", "(hs)", "4+sp",
			// Shifts and extensions.
			"x0, lsl", "x0, lsl 3", "x0, lsl, #3", "x0, lsl #64", "x0, lsl #-1", "x0, lsl #a", "x0, lsl #0-a", "x0, lsl #1<<63", "x0, uxtw 3", "x0, uxtw #64", "x0, sxtx #-1", "x0, uxtb #b-a",
			"x0, lsl #1, lsl #1", "x0, uxtw, lsl #1", "x0, uxtw uxtw", "x0 lsl #1", "x0, lsl # 3 3", "x0, \"lsl\" #3", "x0, \"uxtw\"", "#1, \"lsl\" #3", "[x1, x2, \"lsl\" #3]", "[x1, w2, \"uxtw\"]",
			"#1, lsl", "#1, lsl 3", "#1, lsl #64", "#1, lsl #a", "#1, lsr #1", "#1, uxtb", "#1, sxtw #1", "#1, lsl #1, lsl #1", "1, lsl #1", "(1), lsl #1", "a, lsl #1", ":lo12:a, lsl #1", ":lo12:1, lsl #1", "eq, lsl #1",
			// The lowest bits.
			":", ":lo12", ":lo13:a", ":a", "::a", ":lo12 a", ":12:a", ": : lo12", ":\"lo12\":a",
			// Memory.
			"[", "[]", "[x1", "[,x1]", "[w1]", "[wsp]", "[xzr]", "[wzr]", "[eq]", "[a]", "[1]", "[#1]", "[[x1]]", "[x1 x2]", "[\"x1\"]",
			"[x1,", "[x1,]", "[x1, 8]", "[x1, a]", "[x1, #8", "[x1, #8,]", "[x1, #8, x2]", "[x1, #8, lsl #1]", "[x1, (8)]", "[x1, eq]", "[x1, lsl #1]", "[x1, \"x2\"]",
			"[x1, :lo12:a", "[x1, :lo12:a]!", "[x1]!", "[x1, x2]!", "[x1, #8]!!", "[x1, #8]! !",
			"[x1, sp]", "[x1, wsp]", "[x1, w2]", "[x1, w2, lsl #1]", "[x1, w2, lsl]", "[x1, w2, sxtx]", "[x1, x2, uxtw]", "[x1, x2, sxtw #1]", "[x1, x2, lsr #1]", "[x1, x2, uxtx]", "[x1, w2, uxtb]", "[x1, w2, uxth #1]",
			"[x1, x2, lsl]", "[x1, x2, lsl 1]", "[x1, x2, lsl #64]", "[x1, x2, lsl #-1]", "[x1, x2, lsl #a]", "[x1, x2, sxtx 1]", "[x1, w2, uxtw #64]", "[x1, w2, uxtw #-1]", "[x1, x2,]", "[x1, x2, a]", "[x1, x2, x3]", "[x1, x2", "[x1, x2, lsl #1", "[x1, w2, uxtw", "[x1, x2, lsl #1, lsl #1]",
			"[x1], #8, lsl #1", "[x1], #8!", "[x1], #8]",
			// A number behind a base alone.
			"[x1], 5", "[x1], (5)", "[x1], -5", "[x1], a-a", "[x1, #0], #5", "[x1, #0], 5", "[x1, #a-a], #a", "[x1, #0], #5, lsl #1", "[x1], #1, [x2], 5",
			// The first that is wrong, from the left.
			"x0 #)", "[w1], #)", "x0, lsl #64, #)", "nop, #)", "x0, , #)", "[x1], 5, #)", "[x1, #0], #)", "[x1, #0], #1/0", "[x1, w2, lsl #)]", "[x1, x2, uxtw #1/0]", "#1, lsr #)",
			// One that is wrong among the first eight, or the last of eight.
			"nop," + eight, "x0 x1," + eight, "1,2,3,4,5,6,7,,9", "1,2,3,4,5,6,7,nop,9", eight + " 9", "1,2,3,4,5,6,7,x8, lsl", "1,2,3,4,5,6,7,x8, lsl, 9", "1,2,3,4,5,6,[x7],8,9", "1,2,3,4,5,6,7,[x8", "1,2,3,4,5,6,7,[x8],#1 1",
		},
		api.ErrExpr: {
			"#", "#)", "#,", "# #1", "#:lo12:a", "#[x1]", "[x1, #:lo12:a]", "x0, #", "x0, lsl #", "x0, uxtb #]", "[x1, #", "[x1, #]", "[x1], #", "[x1], #]", "[x1], #, 5", ":lo12:", ":lo12:,", "[x1, :lo12:]", "[x1, x2, lsl #]", "#\"a\"", "#*1", "#1, lsl #!",
			"1+", "(1", "-", "~)", "a * , b", "#1 + ]", "(", "()", "a-", "x0, (a", "[x1], (5", "[x1], -", "#(x0", "x0, lsl #(1", "#1+, nop", "#1+, #1/0",
			"1,2,3,4,5,6,7,#,9", "1,2,3,4,5,6,7,[x8],#,9",
		},
		api.ErrSyms:  {"a*2", "#a*2", "~a", "a+b", "#a+a", ":lo12:a+b", "[x1, #a|1]", "[x1], #a&b", "x0, lsl #a*1", "[x1, x2, lsl #-a-a]", "[x1], a*2", "a*2, nop", "a+b, #1/0", "a+b x", "[x1, :lo12:a*2]"},
		api.ErrZero:  {"1/0", "#1/0", "#1%0", ":lo12:1/0", "[x1, #1/0]", "[x1], #1/0", "[x1], 1/0", "x0, lsl #1/0", "x0, uxtw #1%0", "[x1, x2, lsl #1/0]", "#1, lsl #1/0", "1/0, #1+", "1/0 x", "[x1], (1/0)"},
		api.ErrRange: {"1<<64", "#1>>-1", "[x1, #1<<64]", "x0, lsl #1<<64"},
		api.ErrDepth: {strings.Repeat("-", 65) + "1", "#" + strings.Repeat("(", 65), "[x1, #" + strings.Repeat("~", 65) + "1]", "#" + strings.Repeat("1+", 200) + "1", strings.Repeat("1+", 200) + "1, nop", "x0, lsl #" + strings.Repeat("(", 65)},
		api.ErrLong:  {eight + ",", eight + ",9", eight + ",,", eight + ",nop", eight + ",#)", eight + ",)", eight + ",lsl #1", "x1,x2,x3,x4,x5,x6,x7,x8,x9", "x1,x2,x3,x4,x5,x6,x7,x8,", "1,2,3,4,5,6,7,#8,lsr #1", "1,2,3,4,5,6,7,#8, lsl #1,", "1,2,3,4,5,6,7,x8,lsl #1,9", "1,2,3,4,5,6,7,[x8],9", "1,2,3,4,5,6,7,[x8],#9,10", "1,2,3,4,5,6,7,[x8,#0],#9", "1,2,3,4,5,6,7,[x8,x9,lsl #1],#9", "eq,a,sy,[x1],#2,:lo12:a,nzcv,pan,dit,[x1]"},
	} {
		for _, s := range l {
			x := tokens(t, s)
			if got, e := oper.List(x...); got != nil || e != want {
				t.Errorf("List(%q): %+v, %d, not %d", s, got, e, want)
			}
			held(t, x)
		}
	}
}

// P10.3: tokens that lex does not tell: of a kind that there is none of, a name that is none, a sign of another kind.
func TestListStrange(t *testing.T) {
	comma, x0 := api.Token{Kind: api.TkSign, Text: ","}, api.Token{Kind: api.TkName, Text: "x0"}
	for _, x := range []api.Token{
		{}, {Kind: 5, Text: "x0"}, {Kind: -1, Text: "a"}, {Kind: math.MaxInt}, {Kind: math.MinInt}, {Text: "x0"}, {Text: "#"}, {Text: "["}, {Kind: 5, N: 1},
		{Kind: api.TkName}, {Kind: api.TkName, Text: "1a"}, {Kind: api.TkName, Text: "x 0"}, {Kind: api.TkName, Text: "#"}, {Kind: api.TkName, Text: "["}, {Kind: api.TkName, Text: "("}, {Kind: api.TkName, Text: strings.Repeat("a", 513)}, {Kind: api.TkName, Text: strings.Repeat("_", 1<<20)},
		{Kind: api.TkText, Text: "x0"}, {Kind: api.TkText, Text: "a"}, {Kind: api.TkText, Text: "eq"}, {Kind: api.TkText, Text: "#"}, {Kind: api.TkSign, Text: "x0"}, {Kind: api.TkSign, Text: "a"}, {Kind: api.TkSign}, {Kind: api.TkSign, Text: "##"}, {Kind: api.TkSign, N: 1}, {Kind: api.TkNum + 256, N: 1},
	} {
		for _, l := range [][]api.Token{{x}, {x, comma, x0}, {x0, comma, x}, {x0, x}, {x0, comma, x0, x, x0}} {
			if got, e := oper.List(l...); got != nil || e != api.ErrOper {
				t.Errorf("List(%s): %s, %d", short(l), short(got), e)
			}
			held(t, l)
		}
		for _, s := range []string{"[", "[x1,", "[x1, x2,", "[x1, x2, lsl", "x0, lsl", ":", ":lo12", "[x1, #1", "[x1, x2"} {
			held(t, append(tokens(t, s), x))
		}
	}
	// Nothing but the kind, and what belongs to it, is looked at.
	if got, e := oper.List(api.Token{Kind: api.TkName, Text: "x0", N: 5, At: -1}, api.Token{Kind: api.TkSign, Text: ",", N: 1}, api.Token{Kind: api.TkNum, N: 1 << 63, Text: "x0", At: -5}); e != api.OK || !slices.Equal(got, []api.Oper{register("x0"), num(number(math.MinInt64))}) {
		t.Errorf("List of tokens with more: %+v, %d", got, e)
	}
	long := strings.Repeat("a", 512)
	if got, e := oper.List(api.Token{Kind: api.TkName, Text: long}); e != api.OK || !slices.Equal(got, []api.Oper{place(symbol(long, 0))}) {
		t.Errorf("List of a name of 512 bytes: %d", e)
	}
}

// P10.3: of tokens that are very many.
func TestListMany(t *testing.T) {
	for _, s := range []string{"x0,", "x0", "1 +", "(", "#", "[x1],", "[", ",", "a", "x0, lsl #1,", "-", ": lo12"} {
		l := slices.Repeat(tokens(t, s), 1<<18)
		if got, e := oper.List(l...); got != nil || e == api.OK {
			t.Errorf("List of very many %q: %d operands, %d", s, len(got), e)
		}
	}
}

// P10.2, P10.3: the names of all kinds: which operand each is, as the first kind has it that has the name, and which are none.
func TestNames(t *testing.T) {
	kinds := map[int]int{api.KdCond: api.OrCond, api.KdBar: api.OrBar, api.KdSys: api.OrSys, api.KdPrf: api.OrPrf, api.KdField: api.OrFld}
	for kind := api.KdReg; kind <= api.KdField; kind++ {
		for name, n := range names.All(kind) {
			want, wantE := []api.Oper{{Kind: kinds[kind], N: n}}, api.OK
			switch {
			case kind == api.KdReg:
				want = []api.Oper{register(name)}
			case name == "spsel":
				want = []api.Oper{named(api.OrSys, 16912)}
			case kinds[kind] == 0:
				want, wantE = nil, api.ErrOper
			}
			l := tokens(t, name)
			if got, e := oper.List(l...); !slices.Equal(got, want) || e != wantE {
				t.Errorf("List(%q): %+v, %d, not %+v, %d", name, got, e, want, wantE)
			}
			held(t, l)
			// With # or within something else it is a symbol, but no place begins with it.
			held(t, tokens(t, "#"+name+", :lo12:"+name+", a-"+name+", ("+name+")-a, 1"))
			checked(t, place(symbol(name, 0)))
			checked(t, place(api.Value{Plus: name, Minus: "a"}))
			checked(t, place(api.Value{Minus: name}))
			checked(t, num(symbol(name, 0)))
		}
	}
	for n := range int64(1 << 15) {
		written(t, []api.Oper{named(api.OrSys, n)})
	}
}

// P10.1: each field, from one below its limits to one above them, of each form; what a form does not use.
func TestCheck(t *testing.T) {
	x1 := reg("x1")
	bases := []api.Oper{
		{Kind: api.OrReg, R: x1}, {Kind: api.OrReg, R: reg("sp"), Mod: api.ModLsl, Amt: 1}, {Kind: api.OrReg, Mod: api.ModSxtx},
		{Kind: api.OrNum}, {Kind: api.OrNum, V: symbol("a", 1), Mod: api.ModLsl}, {Kind: api.OrNum, Lo: true}, {Kind: api.OrNum, V: symbol("x0", 1), Lo: true},
		{Kind: api.OrTo}, {Kind: api.OrTo, V: symbol("a", 1)}, {Kind: api.OrCond}, {Kind: api.OrBar}, {Kind: api.OrSys}, {Kind: api.OrPrf}, {Kind: api.OrFld},
		{Kind: api.OrMem, R: x1}, {Kind: api.OrMem, R: x1, Lo: true, V: symbol("a", 1)}, {Kind: api.OrMem, R: x1, Mode: api.MmPre, V: number(8)}, {Kind: api.OrMem, R: x1, Mode: api.MmPost, V: number(8)},
		{Kind: api.OrMem, R: x1, M: x1, Mode: api.MmReg, Mod: api.ModLsl, Amt: -1}, {Kind: api.OrMem, R: x1, M: reg("w1"), Mode: api.MmReg, Mod: api.ModUxtw, Amt: 3},
		{}, {Kind: 10}, {Kind: -1},
	}
	far := []int{-1 << 40, -64, -32, -3, -2, -1, 0, 1, 2, 3, 4, 5, 6, 7, 8, 9, 10, 11, 12, 13, 14, 15, 16, 17, 30, 31, 32, 33, 62, 63, 64, 65, 255, 256, 32767, 32768, 32769, 1 << 32, 1<<32 + 1, math.MaxInt, math.MinInt}
	var changes []func(o *api.Oper)
	for _, n := range far {
		changes = append(changes, func(o *api.Oper) { o.Kind = n }, func(o *api.Oper) { o.Mod = n }, func(o *api.Oper) { o.Amt = n }, func(o *api.Oper) { o.N = int64(n) }, func(o *api.Oper) { o.Mode = n })
		for _, x := range []bool{false, true} {
			for _, sp := range []bool{false, true} {
				r := api.Reg{N: n, X: x, SP: sp}
				changes = append(changes, func(o *api.Oper) { o.R = r }, func(o *api.Oper) { o.M = r })
			}
		}
	}
	for _, v := range []api.Value{{}, {Add: 1}, {Add: math.MinInt64}, {Plus: "a"}, {Minus: "a"}, {Plus: "a", Minus: "b"}, {Plus: "a", Minus: "a"}, {Plus: "x0"}, {Minus: "x0"}, {Plus: "x0", Minus: "1"}, {Plus: "x0", Minus: "x0"}, {Plus: "eq"}, {Plus: "x0 "}, {Plus: "x0+1"}, {Plus: strings.Repeat("a", 513)}, {Plus: "nop", Minus: "b"}, {Add: 1, Plus: "X0"}, {Add: 1, Plus: "hs"}} {
		changes = append(changes, func(o *api.Oper) { o.V = v })
	}
	changes = append(changes, func(o *api.Oper) { o.Lo = !o.Lo })
	for _, base := range bases {
		for i, one := range changes {
			o := base
			one(&o)
			checked(t, o)
			written(t, []api.Oper{o})
			// Of all pairs of changes one in eleven.
			for j := i % 11; j < len(changes); j += 11 {
				o := o
				changes[j](&o)
				checked(t, o)
			}
		}
	}
}

// P10.1: which error counts first.
func TestCheckOrder(t *testing.T) {
	for _, x := range []struct {
		o    api.Oper
		want api.Errno
	}{
		{num(api.Value{Plus: "a b"}), api.ErrExpr},
		{num(api.Value{Plus: "a", Minus: "a"}), api.ErrExpr},
		{low(num(api.Value{Minus: "1"})), api.ErrExpr},
		{memory("x1", api.MmPost, api.Value{Minus: "+"}), api.ErrExpr},
		{place(api.Value{Plus: "x0", Minus: "1"}), api.ErrExpr},
		{place(api.Value{Plus: "x0", Minus: "x0"}), api.ErrExpr},
		{place(api.Value{Plus: "x0 "}), api.ErrExpr},
		{place(symbol("x0", 1)), api.ErrOper},
		{place(symbol("lo", 1)), api.ErrOper},
		{low(place(api.Value{Plus: "1"})), api.ErrOper},
		{with(num(api.Value{Plus: "1"}), api.ModLsr, 0), api.ErrOper},
		{with(low(num(api.Value{Plus: "1"})), api.ModLsl, 0), api.ErrOper},
		{memory("x1", 4, api.Value{Plus: "1"}), api.ErrOper},
		{memory("w1", 0, api.Value{Plus: "1"}), api.ErrOper},
		{api.Oper{Kind: api.OrReg, V: api.Value{Plus: "1"}}, api.ErrOper},
		{api.Oper{Kind: api.OrCond, V: api.Value{Plus: "a", Minus: "a"}}, api.ErrOper},
		{api.Oper{V: api.Value{Plus: "1"}}, api.ErrOper},
		{api.Oper{}, api.ErrOper},
	} {
		if e := oper.Check(x.o); e != x.want {
			t.Errorf("Check(%+v): %d, not %d", x.o, e, x.want)
		}
		if s, e := oper.Text(register("x0"), x.o, api.Oper{}, num(api.Value{Plus: "1"})); s != "" || e != x.want {
			t.Errorf("Text with %+v: %q, %d, not %d", x.o, s, e, x.want)
		}
		if p := oper.Plain(x.o); p != x.o {
			t.Errorf("Plain(%+v): %+v", x.o, p)
		}
	}
}

// P10.2: what is wrong with operands, one by one and together, and which error counts first.
func TestTextWrong(t *testing.T) {
	base, five := memory("x1", 0, number(0)), num(number(5))
	nine := slices.Repeat([]api.Oper{register("x0")}, 9)
	for _, x := range []struct {
		l    []api.Oper
		want api.Errno
	}{
		{nine, api.ErrLong},
		{nine[1:], api.OK},
		{append([]api.Oper{base, five}, nine...), api.ErrLong},
		{append(slices.Clip(nine), base, five), api.ErrLong},
		{append(slices.Clip(nine), api.Oper{}), api.ErrOper},
		{append(slices.Clip(nine), num(api.Value{Plus: "1"}), api.Oper{}), api.ErrExpr},
		{slices.Repeat(nine, 1<<15), api.ErrLong},
		{[]api.Oper{base, num(api.Value{Plus: "1"})}, api.ErrExpr},
		{[]api.Oper{base, five, num(api.Value{Plus: "1"})}, api.ErrExpr},
		// Behind a base alone stands nothing that begins with #.
		{[]api.Oper{base, five}, api.ErrOper},
		{[]api.Oper{base, num(symbol("a", 0))}, api.ErrOper},
		{[]api.Oper{base, with(five, api.ModLsl, 1)}, api.ErrOper},
		{[]api.Oper{base, place(number(5))}, api.ErrOper},
		{[]api.Oper{base, named(api.OrBar, 4)}, api.ErrOper},
		{[]api.Oper{base, named(api.OrPrf, 6)}, api.ErrOper},
		{[]api.Oper{register("x0"), memory("sp", 0, number(0)), five}, api.ErrOper},
		{[]api.Oper{base, base, five, register("x0")}, api.ErrOper},
		{[]api.Oper{base, low(five)}, api.OK},
		{[]api.Oper{base, place(symbol("a", 0))}, api.OK},
		{[]api.Oper{base, place(api.Value{Minus: "a"})}, api.OK},
		{[]api.Oper{base, named(api.OrBar, 5)}, api.OK},
		{[]api.Oper{base, named(api.OrPrf, 5)}, api.OK},
		{[]api.Oper{base, named(api.OrCond, 0)}, api.OK},
		{[]api.Oper{base, register("x0"), five}, api.OK},
		{[]api.Oper{five, base}, api.OK},
		{[]api.Oper{memory("x1", 0, number(1)), five}, api.OK},
		{[]api.Oper{memory("x1", 0, symbol("a", 0)), five}, api.OK},
		{[]api.Oper{low(base), five}, api.OK},
		{[]api.Oper{memory("x1", api.MmPre, number(0)), five}, api.OK},
		{[]api.Oper{memory("x1", api.MmPost, number(0)), five}, api.OK},
		{[]api.Oper{indexed("x1", "x0", api.ModLsl, -1), five}, api.OK},
	} {
		s, e := oper.Text(x.l...)
		if e != x.want || (e == api.OK) != (s != "") {
			t.Errorf("Text(%s): %q, %d, not %d", short(x.l), s, e, x.want)
		}
		written(t, x.l)
	}
	for _, l := range [][]api.Oper{nil, {}} {
		if s, e := oper.Text(l...); s != "" || e != api.OK {
			t.Errorf("Text of none: %q, %d", s, e)
		}
	}
}

// P10.2: Plain: what is told otherwise when it is read again, and what is told the same.
func TestPlain(t *testing.T) {
	for _, x := range []struct{ o, want api.Oper }{
		{place(number(0)), num(number(0))},
		{place(number(-8)), num(number(-8))},
		{named(api.OrBar, 0), num(number(0))},
		{named(api.OrBar, 12), num(number(12))},
		{named(api.OrPrf, 6), num(number(6))},
		{named(api.OrPrf, 31), num(number(31))},
		{named(api.OrFld, 0), named(api.OrSys, 16912)},
		// All else is itself, also what may not be.
		{place(symbol("a", 0)), place(symbol("a", 0))},
		{place(api.Value{Minus: "a"}), place(api.Value{Minus: "a"})},
		{named(api.OrBar, 1), named(api.OrBar, 1)},
		{named(api.OrPrf, 0), named(api.OrPrf, 0)},
		{named(api.OrFld, 1), named(api.OrFld, 1)},
		{named(api.OrCond, 0), named(api.OrCond, 0)},
		{named(api.OrSys, 5), named(api.OrSys, 5)},
		{with(register("w1"), api.ModUxtb, 0), with(register("w1"), api.ModUxtb, 0)},
		{memory("x1", 0, number(0)), memory("x1", 0, number(0))},
		{low(place(number(5))), low(place(number(5)))},
		{with(place(number(5)), 0, 1), with(place(number(5)), 0, 1)},
		{api.Oper{Kind: api.OrBar, N: 4, Mode: 1}, api.Oper{Kind: api.OrBar, N: 4, Mode: 1}},
		{named(api.OrBar, 16), named(api.OrBar, 16)},
		{named(api.OrPrf, 32), named(api.OrPrf, 32)},
		{named(api.OrBar, -1), named(api.OrBar, -1)},
		{api.Oper{Kind: api.OrFld, R: reg("x0")}, api.Oper{Kind: api.OrFld, R: reg("x0")}},
		{place(symbol("x0", 1)), place(symbol("x0", 1))},
		{place(api.Value{Plus: "a", Minus: "a"}), place(api.Value{Plus: "a", Minus: "a"})},
		{api.Oper{}, api.Oper{}},
	} {
		if p := oper.Plain(x.o); p != x.want {
			t.Errorf("Plain(%+v): %+v, not %+v", x.o, p, x.want)
		}
		checked(t, x.o)
	}
}

// P10.4: the symbols of operands, in order; of one that may not be none; what was there when they were asked for.
func TestSymbols(t *testing.T) {
	both := api.Value{Add: 1, Plus: "a", Minus: "b"}
	l := []api.Oper{
		register("x0"), num(both), place(both), low(num(both)), memory("x1", 0, both), low(memory("x1", 0, symbol("c", 0))), memory("x1", api.MmPre, api.Value{Minus: "x0"}), memory("x1", api.MmPost, both),
		num(number(7)), indexed("x1", "x2", api.ModLsl, 1), num(api.Value{Minus: "d"}), num(symbol("x0", 0)),
		// These may not be.
		place(symbol("x0", 0)), low(place(both)), num(api.Value{Plus: "a", Minus: "1"}), num(api.Value{Plus: "a", Minus: "a"}), {Kind: api.OrReg, V: both}, {V: both}, {Kind: api.OrMem, R: reg("w1"), V: both}, {Kind: api.OrCond, V: both},
		num(symbol("e", 0)),
	}
	want := strings.Fields("a b a b a b a b c x0 a b d x0 e")
	all := oper.Symbols(l...)
	clear(l)
	for range 2 {
		if got := slices.Collect(all); !slices.Equal(got, want) {
			t.Errorf("Symbols: %q, not %q", got, want)
		}
	}
	for stop := 1; stop <= len(want); stop++ {
		var got []string
		for s := range all {
			if got = append(got, s); len(got) == stop {
				break
			}
		}
		if !slices.Equal(got, want[:stop]) {
			t.Errorf("Symbols, stopped behind %d: %q", stop, got)
		}
	}
	for s := range oper.Symbols() {
		t.Errorf("Symbols of none: %q", s)
	}
}

// P10.2, P10.3, P10.5: the operands of all instructions' lines, in both forms, drawn by their words.
func TestInstructions(t *testing.T) {
	r := random()
	seen := 0
	for range 200000 {
		x, e := dec.Decode(r.Uint32())
		if e != api.OK {
			continue
		}
		seen++
		plain, _ := alias.Plain(x)
		line, _ := alias.Line(x)
		for _, l := range [][]api.Oper{plain.Opers, line.Opers} {
			if s, e := oper.Text(l...); e != api.OK {
				t.Fatalf("Text(%+v): %q, %d", l, s, e)
			}
			written(t, l)
		}
	}
	if seen < 10000 {
		t.Errorf("of all words %d were instructions", seen)
	}
}

// P10.5: texts that are as long as a line, and longer.
func TestTextLong(t *testing.T) {
	for _, n := range []int{1, 100, 255, 500, 511, 512} {
		a, b := strings.Repeat("a", n), strings.Repeat("b", n)
		l := []api.Oper{num(api.Value{Plus: a, Minus: b}), place(api.Value{Minus: a}), memory("x1", api.MmPre, symbol(b, -1))}
		s, e := oper.Text(l...)
		if want := "#" + a + "-" + b + ", 0-" + a + ", [x1, #" + b + "-1]!"; s != want || e != api.OK {
			t.Errorf("Text with symbols of %d bytes: %.100q, %d", n, s, e)
		}
		written(t, l)
		for _, o := range l {
			written(t, []api.Oper{o})
		}
	}
	if _, _, e := lex.Lex(strings.Repeat("a", 513)); e != api.ErrLong {
		t.Errorf("Lex of 513 bytes: %d", e)
	}
}
