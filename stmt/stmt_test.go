package stmt_test

import (
	"math"
	"slices"
	"strings"
	"testing"

	"cooper/api"
	"cooper/stmt"
)

func register(n int) api.Oper            { return api.Oper{Kind: api.OrReg, R: api.Reg{N: n, X: true}} }
func num(n int64) api.Oper               { return api.Oper{Kind: api.OrNum, V: number(n)} }
func place(s string) api.Oper            { return api.Oper{Kind: api.OrTo, V: symbol(s, 0)} }
func number(n int64) api.Value           { return api.Value{Add: n} }
func symbol(s string, n int64) api.Value { return api.Value{Add: n, Plus: s} }

func inst(name string, l ...api.Oper) api.Stmt {
	return api.Stmt{Kind: api.StInst, Line: api.Line{Name: name, Opers: l}}
}

func section(name string) api.Stmt    { return api.Stmt{Kind: api.StSection, Names: []string{name}} }
func global(l ...string) api.Stmt     { return api.Stmt{Kind: api.StGlobal, Names: l} }
func align(l ...api.Value) api.Stmt   { return api.Stmt{Kind: api.StAlign, Values: l} }
func ascii(s string) api.Stmt         { return api.Stmt{Kind: api.StAscii, Bytes: []byte(s)} }
func labelled(l ...string) api.Stmt   { return with(api.Stmt{}, l...) }
func numbered(n int64) []api.Value    { return []api.Value{number(n)} }
func repeated(s string, n int) string { return strings.TrimSuffix(strings.Repeat(s, n), ",") }

func data(size int, l ...api.Value) api.Stmt {
	return api.Stmt{Kind: api.StData, Size: size, Values: l}
}

func equ(name string, v api.Value) api.Stmt {
	return api.Stmt{Kind: api.StEqu, Names: []string{name}, Values: []api.Value{v}}
}

// with is a statement with labels.
func with(s api.Stmt, l ...string) api.Stmt {
	s.Labels = l
	return s
}

// line is a line, the statement that it is, and this as a line.
type line struct {
	text string
	s    api.Stmt
	back string
}

func lines() []line {
	return []line{
		{"", api.Stmt{}, ""},
		{" \t // a: .byte 1", api.Stmt{}, ""},
		// P11.3: the document's example.
		{"loop: .word a + 4, -1", with(data(4, symbol("a", 4), number(-1)), "loop"), "loop: .word a+4, -1"},
		// Labels.
		{"a:", labelled("a"), "a:"},
		{"a:b : \t.c:$: x0: .text: ..:_:", labelled("a", "b", ".c", "$", "x0", ".text", "..", "_"), "a: b: .c: $: x0: .text: ..: _:"},
		{"a:a:a:a:a:a:a:a:ret", with(inst("ret"), "a", "a", "a", "a", "a", "a", "a", "a"), "a: a: a: a: a: a: a: a: ret"},
		{"add:add", with(inst("add"), "add"), "add: add"},
		// Directives.
		{".text", section(".text"), ".text"},
		{".data", section(".data"), ".data"},
		{".section .text", section(".text"), ".text"},
		{".section .data", section(".data"), ".data"},
		{".section text", section("text"), ".section text"},
		{"a: .section .section", with(section(".section"), "a"), "a: .section .section"},
		{".section .", section("."), ".section ."},
		{".section x0", section("x0"), ".section x0"},
		{".global a", global("a"), ".global a"},
		{".global a,a ,.b, .,$1", global("a", "a", ".b", ".", "$1"), ".global a, a, .b, ., $1"},
		{".align 0", align(number(0)), ".align 0"},
		{".align 12", align(number(12)), ".align 12"},
		{".align a - a + 3 * 2", align(number(6)), ".align 6"},
		{".byte 'a',0x10,0b1,-1,~0", data(1, number(97), number(16), number(1), number(-1), number(-1)), ".byte 97, 16, 1, -1, -1"},
		{".word (a), a-b, -b, .", data(4, symbol("a", 0), api.Value{Plus: "a", Minus: "b"}, api.Value{Minus: "b"}, symbol(".", 0)), ".word a, a-b, 0-b, ."},
		{".quad 0x8000000000000000, 9223372036854775807, x0, 256", data(8, number(math.MinInt64), number(math.MaxInt64), symbol("x0", 0), number(256)), ".quad -9223372036854775808, 9223372036854775807, x0, 256"},
		{`.ascii ""`, ascii(""), `.ascii ""`},
		{`.ascii "a, b: // \n\0\x41\""`, ascii("a, b: // \n\x00A\""), `.ascii "a, b: // \n\0A\""`},
		{".equ a, 1", equ("a", number(1)), ".equ a, 1"},
		{".equ .,.+4", equ(".", symbol(".", 4)), ".equ ., .+4"},
		{"a: .equ .equ , a - b", with(equ(".equ", api.Value{Plus: "a", Minus: "b"}), "a"), "a: .equ .equ, a-b"},
		// Instructions.
		{"ret", inst("ret"), "ret"},
		{"x0", inst("x0"), "x0"},
		{"text a", inst("text", place("a")), "text a"},
		{"  l: add x0,x1 ,#1  // c", with(inst("add", register(0), register(1), num(1)), "l"), "l: add x0, x1, #1"},
		{"b.eq loop", inst("b.eq", place("loop")), "b.eq loop"},
		{"_ 4", inst("_", num(4)), "_ #4"},
		{"a 1,2,3,4,5,6,7,8", inst("a", num(1), num(2), num(3), num(4), num(5), num(6), num(7), num(8)), "a #1, #2, #3, #4, #5, #6, #7, #8"},
		{"a b, :lo12:c", inst("a", place("b"), api.Oper{Kind: api.OrNum, V: symbol("c", 0), Lo: true}), "a b, :lo12:c"},
		{"a: lo12: c", with(inst("c"), "a", "lo12"), "a: lo12: c"},
	}
}

// P11.1, P11.3: which statements lines are, and these as lines; what is answered is nobody's else.
func TestLines(t *testing.T) {
	for _, x := range lines() {
		for range 2 {
			got, e := stmt.Parse(x.text)
			if !stmt.Same(got, x.s) || key(got) != key(x.s) || e != api.OK {
				t.Errorf("Parse(%q): %+v, %d, not %+v", x.text, got, e, x.s)
			}
			spoil(got)
		}
		if s, e := stmt.Print(x.s); s != x.back || e != api.OK {
			t.Errorf("Print(%+v): %q, %d, not %q", x.s, s, e, x.back)
		}
		held(t, x.text)
		checked(t, x.s)
	}
}

// spoil changes all that the lists of a statement hold.
func spoil(s api.Stmt) {
	for _, l := range [][]string{s.Labels, s.Names} {
		for i := range l {
			l[i] = "spoiled"
		}
	}
	clear(s.Line.Opers)
	clear(s.Values)
	clear(s.Bytes)
}

// P11.1: what is wrong with lines that are none.
func TestParseWrong(t *testing.T) {
	many := repeated("a,", 64)
	for want, l := range map[api.Errno][]string{
		api.ErrToken: {";", "a: ;", ". ;", ".x 1 ;"},
		api.ErrNum:   {"08", ".byte 1, 0x", "1 0b2"},
		api.ErrQuote: {`"`, `.ascii "\q"`, `. "`},
		api.ErrStmt: {
			".", ". a", ".:", "a: .", "a: .: b", ". :", "a:b:c:d:e:f:g:h:.", "a:b:c:d:e:f:g:h:.:", "a: 1", "1", "1:", ",", ":", "a: :", "::", "[x0]", `"a"`, "-a", "a: a: (", "# 1", "a: , b", "= a",
		},
		api.ErrLong: {
			strings.Repeat(" ", 513), "a:b:c:d:e:f:g:h:i:", "a:b:c:d:e:f:g:h:i:.", "a:a:a:a:a:a:a:a:.x:", "a:b:c:d:e:f:g:h:i: .x",
			".global " + many + ",", ".global " + many + ",a", ".global " + many + ",,", ".global " + many + ", 1", ".byte " + many + ",", ".byte " + many + ", 1/0", ".word " + many + ", a b", ".quad " + many + `, "a"`,
			"a 1,2,3,4,5,6,7,8,9", "a 1,2,3,4,5,6,7,8,",
		},
		api.ErrDir: {".x", ".x 1", "a: .x", ".TEXT", ".Byte 1", ".tex", ".textt", ".sections a", ".bytes 1", ".hword 1", "..", ".1", ".$", ".globl a", ".x *", ".b eq"},
		api.ErrOpers: {
			".text 1", ".text .data", ".data ,", ".text a:", ".section", ".section 1", ".section ,", ".section a b", ".section a,", ".section a, b", `.section "a"`, ".section -a",
			".global", ".global 1", ".global ,", ".global a b", ".global a,", ".global a,,b", ".global ,a", ".global a, 1", `.global a, "b"`, ".global a: b", ".global (a)", ".global a+1", ".global " + many + " a", ".global " + many + " 1,",
			".align 1 2", ".align 1, 2", ".align 1,", ".align 12 a", ".align 1 :", ".align 1 =",
			".byte 1 2", ".byte 1 a", ".word 1: 2", `.quad 1 "a"`, ".byte 1, 2 3, 1/0", ".word a b", ".byte " + many + " 1", ".byte 1)", ".byte 1 ! 2", ".byte 1 ~ 2", ".byte 1 # 2",
			".ascii", ".ascii a", ".ascii 1", ".ascii ,", `.ascii "a" "b"`, `.ascii "a", "b"`, `.ascii "a",`, `.ascii "a" 1`, `.ascii ("a")`,
			".equ", ".equ 1", ".equ a", ".equ a 1", ".equ ,", ".equ , 1", ".equ a: 1", `.equ "a", 1`, ".equ a, 1, 2", ".equ a, 1 2", ".equ a, 1,", ".equ a = 1", ".equ a b, 1", ".equ a, b c", ".equ 1, 1/0", ".equ a . 1",
		},
		api.ErrExpr: {
			".byte", ".byte ,", ".byte 1,", ".byte 1,,2", ".word #1", ".word 1, #1", `.quad "a"`, ".byte 1 +", ".byte (1", ".byte (1, 2", ".byte ()", ".byte - , 1", ".word +1", ".quad [x0]", ".byte / 2",
			".align", ".align ,", ".align *", `.align "1"`, ".align 1 -", ".align (13", ".align #1",
			".equ a,", ".equ a,,", ".equ a, ,", ".equ a, *", ".equ a, (b", ".equ a, #1",
			"a #", "a x0, #", "a (", "a x0, #,",
		},
		api.ErrSyms:  {".word a*2", ".byte 1, a|b", ".quad a+b", ".align a*2", ".align a<<1 2", ".equ a, ~a", ".equ a, a*a 1", "a b*2", "a #b*2", ".word a*2, 1/0", ".byte a-b-c"},
		api.ErrZero:  {".byte 1/0", ".align 1%0", ".equ a, 1/0", ".byte 1/0, a*2", ".byte 1/0 2", "a 1/0"},
		api.ErrDepth: {".byte " + strings.Repeat("(", 65) + "1", ".align " + strings.Repeat("-", 65) + "1", ".equ a, " + strings.Repeat("~", 65) + "b"},
		api.ErrRange: {".align 13", ".align -1", ".align a", ".align 0-a", ".align a-b", ".align .", ".align 13 1", ".align a, 1", ".align 0x8000000000000000", ".align 4294967296", ".align a - a + 13", ".byte 1 << 64", ".equ a, 1>>-1"},
		api.ErrOper:  {"a ,", "a b,", "a b c", "a [x0", "a x0 x1", "a: b c: d", "a )", `a "b"`, "a [x0], 5", "a +1", "a !", "a nop", "a = b", "a x0, lsl"},
	} {
		for _, x := range l {
			if s, e := stmt.Parse(x); e != want || !stmt.Same(s, api.Stmt{}) || key(s) != key(api.Stmt{}) {
				t.Errorf("Parse(%q): %+v, %d, not %d", x, s, e, want)
			}
			held(t, x)
		}
	}
}

// P11.1: as many labels, names and values as there may be, and depth and bytes.
func TestParseMost(t *testing.T) {
	many := repeated("a,", 64)
	for _, x := range []string{
		"a:b:c:d:e:f:g:h:", "a:b:c:d:e:f:g:h:.text", ".global " + many, ".byte " + many, ".word " + many, "a:b:c:d:e:f:g:h:.quad " + many,
		".byte " + strings.Repeat("(", 64) + "1" + strings.Repeat(")", 64),
		".equ a, " + strings.Repeat("-", 64) + "1",
		strings.Repeat("a", 511) + ":", strings.Repeat("a", 512), "a:" + strings.Repeat(" ", 509) + "b",
	} {
		if _, e := stmt.Parse(x); e != api.OK {
			t.Errorf("Parse(%q): %d", x, e)
		}
		held(t, x)
	}
}

// P11.2, P11.3: what is wrong with statements that may not be: of several things the one that is named first.
func TestCheckWrong(t *testing.T) {
	names := slices.Repeat([]string{"a"}, 65)
	values := slices.Repeat(numbered(1), 65)
	low := api.Oper{Kind: api.OrNum, V: symbol("a", 0), Lo: true}
	bad := api.Value{Plus: "a b"}
	for want, l := range map[api.Errno][]api.Stmt{
		api.ErrStmt: {
			{Kind: -1}, {Kind: 8}, {Kind: math.MinInt}, {Kind: math.MaxInt, Labels: names},
			labelled("."), labelled(""), labelled("a", "1"), labelled("a:"), labelled("a "), labelled("é"), with(inst("ret"), "a", "."), with(api.Stmt{}, append(names, ".")...),
			// What a kind does not use.
			{Line: api.Line{Name: "a"}}, {Line: api.Line{Opers: []api.Oper{num(1)}}}, {Names: []string{"a"}}, {Names: []string{""}}, {Size: 1}, {Size: -1}, {Values: numbered(0)}, {Bytes: []byte{0}},
			{Kind: api.StInst, Line: api.Line{Name: "a"}, Names: []string{"a"}}, {Kind: api.StInst, Line: api.Line{Name: "a"}, Size: 4}, {Kind: api.StInst, Line: api.Line{Name: "a"}, Values: numbered(0)}, {Kind: api.StInst, Line: api.Line{Name: "a"}, Bytes: []byte{0}},
			{Kind: api.StSection, Names: []string{"a"}, Size: 1}, {Kind: api.StSection, Names: []string{"a"}, Values: numbered(0)}, {Kind: api.StSection, Names: []string{"a"}, Bytes: []byte{0}}, {Kind: api.StSection, Names: []string{"a"}, Line: api.Line{Name: "a"}},
			{Kind: api.StGlobal, Names: []string{"a"}, Size: 1}, {Kind: api.StGlobal, Names: []string{"a"}, Values: numbered(0)}, {Kind: api.StGlobal, Names: []string{"a"}, Bytes: []byte{0}}, {Kind: api.StGlobal, Names: []string{"a"}, Line: api.Line{Opers: []api.Oper{num(1)}}},
			{Kind: api.StAlign, Values: numbered(0), Size: 1}, {Kind: api.StAlign, Values: numbered(0), Names: []string{"a"}}, {Kind: api.StAlign, Values: numbered(0), Bytes: []byte{0}}, {Kind: api.StAlign, Values: numbered(13), Line: api.Line{Name: "a"}},
			{Kind: api.StData, Values: numbered(0), Size: 1, Names: []string{"a"}}, {Kind: api.StData, Values: numbered(0), Size: 1, Bytes: []byte{0}}, {Kind: api.StData, Values: values, Size: 1, Line: api.Line{Name: "a"}},
			{Kind: api.StAscii, Size: 1}, {Kind: api.StAscii, Names: names}, {Kind: api.StAscii, Values: values}, {Kind: api.StAscii, Line: api.Line{Name: "a"}},
			{Kind: api.StEqu, Names: []string{"a"}, Values: numbered(0), Size: 1}, {Kind: api.StEqu, Names: []string{"a"}, Values: numbered(0), Bytes: []byte{0}}, {Kind: api.StEqu, Names: []string{"a"}, Values: numbered(0), Line: api.Line{Name: "a"}},
			// How many there are, and what they are.
			{Kind: api.StSection}, {Kind: api.StSection, Names: []string{"a", "b"}}, {Kind: api.StSection, Names: names[:64]}, section(""), section("1"), section("a b"),
			global(), global(""), global("a", "1"), global("a", "b", "c d"), global(append(names[:63:63], "1")...),
			align(), align(number(1), number(2)), align(number(13), number(13)), align(bad, bad),
			data(4), data(0, number(1)), data(2, number(1)), data(3, number(1)), data(-1, number(1)), data(16, number(1)), data(5, bad), data(257, number(1)),
			{Kind: api.StEqu}, {Kind: api.StEqu, Names: []string{"a"}}, {Kind: api.StEqu, Values: numbered(0)}, {Kind: api.StEqu, Names: []string{"a"}, Values: []api.Value{bad, bad}}, {Kind: api.StEqu, Names: []string{"a", "b"}, Values: numbered(0)}, equ("", number(1)), equ("1", bad),
			inst(""), inst("1"), inst("."), inst(".text"), inst("a b"), inst("a:"), inst(".a", api.Oper{}), inst("", num(1)),
			// A : behind the name.
			inst("a", low), inst("a", low, num(1)),
		},
		api.ErrLong: {
			labelled(names[:9]...), labelled(names...), with(inst(""), names[:9]...), with(data(2), names[:9]...), with(equ("a", bad), names[:9]...),
			global(names...), {Kind: api.StSection, Names: names}, global(append(names[:64:64], "")...), {Kind: api.StEqu, Names: names, Values: numbered(0)},
			data(1, values...), data(2, values...), align(values...), {Kind: api.StEqu, Values: values}, data(1, slices.Repeat([]api.Value{bad}, 65)...),
			inst("a", slices.Repeat([]api.Oper{num(1)}, 9)...), inst("a", slices.Repeat([]api.Oper{low}, 9)...),
		},
		api.ErrRange: {align(number(-1)), align(number(13)), align(symbol("a", 0)), align(symbol("a", 1)), align(api.Value{Minus: "a"}), align(api.Value{Plus: "a", Minus: "a"}), align(bad), align(number(math.MaxInt64)), align(number(math.MinInt64)), align(number(1 << 32))},
		api.ErrExpr:  {data(1, bad), data(4, number(1), api.Value{Minus: "1"}), data(8, api.Value{Plus: "a", Minus: "a"}), equ("a", bad), inst("a", api.Oper{Kind: api.OrNum, V: bad}), inst("a", low, api.Oper{Kind: api.OrTo, V: bad})},
		api.ErrOper:  {inst("a", api.Oper{}), inst("a", low, api.Oper{}), inst("a", place("x0")), inst("a", append(slices.Repeat([]api.Oper{num(1)}, 8), api.Oper{})...), inst("a", api.Oper{Kind: api.OrMem, R: api.Reg{X: true}}, num(1))},
	} {
		for _, s := range l {
			if e := stmt.Check(s); e != want {
				t.Errorf("Check(%s): %d, not %d", short(s), e, want)
			}
			if line, e := stmt.Print(s); line != "" || e != want {
				t.Errorf("Print(%s): %q, %d, not %d", short(s), line, e, want)
			}
			checked(t, s)
		}
	}
}

// P11.2, P11.3: what may be, at its limits, and what is too long for a line only.
func TestCheckMost(t *testing.T) {
	for _, s := range []api.Stmt{
		{}, labelled(slices.Repeat([]string{"a"}, 8)...), global(slices.Repeat([]string{"a"}, 64)...), data(8, slices.Repeat(numbered(1), 64)...),
		align(number(0)), align(number(12)), data(1, number(256)), data(1, api.Value{Add: math.MinInt64, Plus: "a", Minus: "b"}), section("."), global("."), equ(".", number(1)),
		inst("a", slices.Repeat([]api.Oper{num(1)}, 8)...), inst("a", num(1), api.Oper{Kind: api.OrNum, V: symbol("a", 0), Lo: true}),
		{Labels: []string{}, Names: []string{}, Values: []api.Value{}, Bytes: []byte{}, Line: api.Line{Opers: []api.Oper{}}},
	} {
		if e := stmt.Check(s); e != api.OK {
			t.Errorf("Check(%s): %d", short(s), e)
		}
		if line, e := stmt.Print(s); e != api.OK {
			t.Errorf("Print(%s): %q, %d", short(s), line, e)
		}
		checked(t, s)
	}
}

// P11.3: lines of as many bytes as there may be, and of one more.
func TestPrintMost(t *testing.T) {
	for _, x := range []struct {
		beside int
		s      func(string) api.Stmt
	}{
		{len(":"), func(x string) api.Stmt { return labelled(x) }},
		{len("b: :"), func(x string) api.Stmt { return labelled("b", x) }},
		{len("b: "), func(x string) api.Stmt { return with(inst(x), "b") }},
		{len(" #1"), func(x string) api.Stmt { return inst(x, num(1)) }},
		{len("b "), func(x string) api.Stmt { return inst("b", place(x)) }},
		{len(".section "), section},
		{len(".global b, "), func(x string) api.Stmt { return global("b", x) }},
		{len(".byte "), func(x string) api.Stmt { return data(1, symbol(x, 0)) }},
		{len(".quad b-, -1"), func(x string) api.Stmt { return data(8, api.Value{Plus: "b", Minus: x}, number(-1)) }},
		{len(`.ascii ""`), ascii},
		{len(`.ascii "\x01"`), func(x string) api.Stmt { return ascii(x + "\x01") }},
		{len(".equ , 1"), func(x string) api.Stmt { return equ(x, number(1)) }},
		{len("b: .equ b, "), func(x string) api.Stmt { return with(equ("b", symbol(x, 0)), "b") }},
	} {
		s := x.s(strings.Repeat("a", 512-x.beside))
		if line, e := stmt.Print(s); len(line) != 512 || e != api.OK {
			t.Errorf("Print(%s): %q, %d", short(s), line, e)
		}
		checked(t, s)
		s = x.s(strings.Repeat("a", 513-x.beside))
		if e := stmt.Check(s); e != api.OK {
			t.Errorf("Check(%s): %d", short(s), e)
		}
		if line, e := stmt.Print(s); line != "" || e != api.ErrLong {
			t.Errorf("Print(%s): %q, %d", short(s), line, e)
		}
		checked(t, s)
	}
	for _, s := range []api.Stmt{ascii(strings.Repeat("\x01", 1000)), data(8, slices.Repeat(numbered(math.MinInt64), 64)...), labelled(strings.Repeat("a", 1000))} {
		if line, e := stmt.Print(s); line != "" || e != api.ErrLong || stmt.Check(s) != api.OK {
			t.Errorf("Print(%s): %q, %d", short(s), line, e)
		}
		checked(t, s)
	}
}

// P11.3: a statement whose operands are as they are told again, in memory of its own.
func TestPlain(t *testing.T) {
	far := api.Oper{Kind: api.OrTo, V: number(8)}
	for _, x := range []struct{ s, plain api.Stmt }{
		{inst("b", far), inst("b", num(8))},
		{with(inst("b", place("a"), far, api.Oper{Kind: api.OrBar}, api.Oper{Kind: api.OrFld}), "a"), with(inst("b", place("a"), num(8), num(0), api.Oper{Kind: api.OrSys, N: 16912}), "a")},
		{equ("a", symbol("b", 1)), equ("a", symbol("b", 1))},
		{ascii("a"), ascii("a")},
		// One that may not be.
		{
			api.Stmt{Kind: 9, Labels: []string{"."}, Line: api.Line{Name: ".", Opers: []api.Oper{far, {}, {Kind: api.OrTo, N: 1}}}, Names: []string{""}, Size: 3, Values: []api.Value{{Plus: "1", Minus: "1"}}, Bytes: []byte{1}},
			api.Stmt{Kind: 9, Labels: []string{"."}, Line: api.Line{Name: ".", Opers: []api.Oper{num(8), {}, {Kind: api.OrTo, N: 1}}}, Names: []string{""}, Size: 3, Values: []api.Value{{Plus: "1", Minus: "1"}}, Bytes: []byte{1}},
		},
	} {
		was := key(x.s)
		for range 2 {
			got := stmt.Plain(x.s)
			if !stmt.Same(got, x.plain) || key(got) != key(x.plain) {
				t.Errorf("Plain(%+v): %+v, not %+v", x.s, got, x.plain)
			}
			spoil(got)
		}
		if key(x.s) != was {
			t.Errorf("%s was changed", was)
		}
		checked(t, x.s)
	}
}

// P11.3: what statements define: as it was when it was asked for, up to where the range stops, again and again.
func TestNames(t *testing.T) {
	for _, x := range []struct {
		s    api.Stmt
		want []string
	}{
		{api.Stmt{}, nil},
		{labelled("a", "b", "a"), []string{"a", "b", "a"}},
		{with(equ("c", number(1)), "a", "b"), []string{"a", "b", "c"}},
		{with(global("c"), "a"), []string{"a"}},
		{with(section("c"), "a"), []string{"a"}},
		{with(inst("c"), "a"), []string{"a"}},
		// Those that may not be.
		{api.Stmt{Kind: api.StEqu}, nil},
		{api.Stmt{Kind: api.StEqu, Labels: []string{".", ""}, Names: []string{"1", "b"}}, []string{".", "", "1"}},
		{api.Stmt{Kind: 9, Labels: []string{"a"}, Names: []string{"b"}}, []string{"a"}},
	} {
		all := stmt.Names(x.s)
		spoil(x.s)
		for range 2 {
			if got := slices.Collect(all); !slices.Equal(got, x.want) {
				t.Errorf("Names(%+v): %q, not %q", x.s, got, x.want)
			}
		}
		for stop := range len(x.want) {
			var got []string
			for name := range all {
				if got = append(got, name); len(got) > stop {
					break
				}
			}
			if !slices.Equal(got, x.want[:stop+1]) {
				t.Errorf("Names(%+v): %q, not %q", x.s, got, x.want[:stop+1])
			}
		}
	}
}

// P11.3: two statements are the same if each field is; nil and empty lists are.
func TestSame(t *testing.T) {
	all := []api.Stmt{
		{}, {Kind: 1}, {Kind: 9}, {Size: 1}, {Labels: []string{"a"}}, {Labels: []string{"b"}}, {Labels: []string{"a", "b"}}, {Labels: []string{"b", "a"}}, {Labels: []string{""}},
		{Names: []string{"a"}}, {Names: []string{"b"}}, {Names: []string{"a", "b"}}, {Line: api.Line{Name: "a"}}, {Line: api.Line{Name: "b"}},
		{Line: api.Line{Opers: []api.Oper{{}}}}, {Line: api.Line{Opers: []api.Oper{num(0)}}}, {Line: api.Line{Opers: []api.Oper{num(1)}}}, {Line: api.Line{Opers: []api.Oper{num(1), num(1)}}}, {Line: api.Line{Opers: []api.Oper{place("a")}}},
		{Values: numbered(0)}, {Values: numbered(1)}, {Values: []api.Value{{Plus: "a"}}}, {Values: []api.Value{{Minus: "a"}}}, {Values: append(numbered(1), number(1))},
		{Bytes: []byte{0}}, {Bytes: []byte{1}}, {Bytes: []byte{1, 1}}, with(equ("a", number(1)), "a"), with(equ("a", number(1)), "b"), equ("a", number(1)),
	}
	for i, a := range all {
		for j, b := range all {
			if got := stmt.Same(a, b); got != (i == j) {
				t.Errorf("Same(%+v, %+v): %t", a, b, got)
			}
		}
	}
	if !stmt.Same(api.Stmt{Labels: []string{}, Names: []string{}, Values: []api.Value{}, Bytes: []byte{}, Line: api.Line{Opers: []api.Oper{}}}, api.Stmt{}) {
		t.Error("empty lists are not nil ones")
	}
}
