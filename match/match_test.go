package match_test

import (
	"math"
	"math/rand/v2"
	"slices"
	"strings"
	"testing"

	"cooper/alias"
	"cooper/api"
	"cooper/enc"
	"cooper/match"
)

// P12.1: lines, and what they are as instructions' lines are.
func TestNorm(t *testing.T) {
	for s, want := range map[string]string{
		"":                         "",
		"nop":                      "nop",
		"b.hs #8":                  "b.cs #8",
		"b.lo #8":                  "b.cc #8",
		"b.lo l+4":                 "b.cc l+4",
		"b.hi #8":                  "b.hi #8",
		"hs":                       "hs",
		"b.hsx #8":                 "b.hsx #8",
		"b 8":                      "b #8",
		"add x0, x1, x2, lsl #0":   "add x0, x1, x2",
		"any x0, lsl #0, #5":       "any x0, #5",
		"any #5, lsl #0, x0":       "any #5, x0",
		"add x0, x1, #5, lsl #0":   "add x0, x1, #5",
		"add x0, x1, x2, lsl #1":   "add x0, x1, x2, lsl #1",
		"add x0, x1, x2, lsr #0":   "add x0, x1, x2, lsr #0",
		"add x0, x1, x2, uxtx":     "add x0, x1, x2, uxtx",
		"ldr x0, [x1, x2, lsl #0]": "ldr x0, [x1, x2, lsl #0]",
		"movz x0, #0, lsl #16":     "movz x0, #0, lsl #16",

		"mov w0, #-1":                     "mov w0, #4294967295",
		"mov w0, #-2147483648":            "mov w0, #2147483648",
		"mov w0, #-2147483649":            "mov w0, #-2147483649",
		"mov w0, #0":                      "mov w0, #0",
		"mov w0, #4294967295":             "mov w0, #4294967295",
		"mov x0, #-1":                     "mov x0, #-1",
		"mov wsp, #-1":                    "mov wsp, #4294967295",
		"mov w0, -1":                      "mov w0, #4294967295",
		"mov w0, #-1, lsl #0":             "mov w0, #4294967295",
		"mov w0, #-1, lsl #1":             "mov w0, #-1, lsl #1",
		"mov w0, #v-1":                    "mov w0, #v-1",
		"mov w0, #0-v-1":                  "mov w0, #0-v-1",
		"mov w0, :lo12:-1":                "mov w0, :lo12:-1",
		"mov #-1":                         "mov #-1",
		"mov #-1, #-1":                    "mov #-1, #-1",
		"mov eq, #-1":                     "mov eq, #-1",
		"and w0, x1, #-2":                 "and w0, x1, #4294967294",
		"and x0, w1, #-2":                 "and x0, w1, #-2",
		"orr w0, w1, #-2":                 "orr w0, w1, #4294967294",
		"eor w0, w1, #-2":                 "eor w0, w1, #4294967294",
		"ands w0, w1, #-2":                "ands w0, w1, #4294967294",
		"tst w0, #-2":                     "tst w0, #4294967294",
		"tst w0, w1, w2, #-2":             "tst w0, w1, w2, #-2",
		"and w0, #-2, w1":                 "and w0, #-2, w1",
		"bic w0, w1, #-2":                 "bic w0, w1, #-2",
		"movz w0, #-2":                    "movz w0, #-2",
		"add w0, w1, #-2":                 "add w0, w1, #-2",
		"mvn w0, #-2":                     "mvn w0, #-2",
		"add x0, x1, #4096":               "add x0, x1, #1, lsl #12",
		"add x0, x1, #16773120":           "add x0, x1, #4095, lsl #12",
		"add x0, x1, #16777216":           "add x0, x1, #16777216",
		"add x0, x1, #4095":               "add x0, x1, #4095",
		"add x0, x1, #0":                  "add x0, x1, #0",
		"add x0, x1, #4097":               "add x0, x1, #4097",
		"add x0, x1, #6144":               "add x0, x1, #6144",
		"add x0, x1, #-4096":              "add x0, x1, #-4096",
		"add x0, x1, #8192, lsl #0":       "add x0, x1, #2, lsl #12",
		"add x0, x1, #8192, lsl #12":      "add x0, x1, #8192, lsl #12",
		"add x0, x1, 8192":                "add x0, x1, #2, lsl #12",
		"add x0, x1, #v+8192":             "add x0, x1, #v+8192",
		"add x0, x1, :lo12:8192":          "add x0, x1, :lo12:8192",
		"add #8192, x1":                   "add #8192, x1",
		"add #8192":                       "add #2, lsl #12",
		"adds w0, w1, #8192":              "adds w0, w1, #2, lsl #12",
		"sub w0, w1, w2, #8192":           "sub w0, w1, w2, #2, lsl #12",
		"subs w0, w1, #8192":              "subs w0, w1, #2, lsl #12",
		"cmp w0, #8192":                   "cmp w0, #2, lsl #12",
		"cmn w0, #8192":                   "cmn w0, #2, lsl #12",
		"neg w0, #8192":                   "neg w0, #8192",
		"adc w0, w1, #8192":               "adc w0, w1, #8192",
		"mov w0, #8192":                   "mov w0, #8192",
		"ldr x0, [x1, #-8]":               "ldur x0, [x1, #-8]",
		"ldr x0, [x1, #-256]":             "ldur x0, [x1, #-256]",
		"ldr x0, [x1, #-257]":             "ldr x0, [x1, #-257]",
		"ldr x0, [x1, #255]":              "ldur x0, [x1, #255]",
		"ldr x0, [x1, #257]":              "ldr x0, [x1, #257]",
		"ldr x0, [x1, #4]":                "ldur x0, [x1, #4]",
		"ldr x0, [x1, #8]":                "ldr x0, [x1, #8]",
		"ldr x0, [x1]":                    "ldr x0, [x1]",
		"ldr w0, [x1, #4]":                "ldr w0, [x1, #4]",
		"ldr w0, [x1, #2]":                "ldur w0, [x1, #2]",
		"ldr x0, [x1, #-8]!":              "ldr x0, [x1, #-8]!",
		"ldr x0, [x1], #-8":               "ldr x0, [x1], #-8",
		"ldr x0, [x1, x2]":                "ldr x0, [x1, x2]",
		"ldr x0, [x1, #v-8]":              "ldr x0, [x1, #v-8]",
		"ldr x0, [x1, :lo12:3]":           "ldr x0, [x1, :lo12:3]",
		"ldr x0, x2, [x1, #-8]":           "ldr x0, x2, [x1, #-8]",
		"ldr [x1, #-8]":                   "ldr [x1, #-8]",
		"ldr #0, [x1, #4]":                "ldur #0, [x1, #4]",
		"ldr x0, #-8":                     "ldr x0, #-8",
		"str x0, [x1, #4]":                "stur x0, [x1, #4]",
		"str wzr, [sp, #4]":               "str wzr, [sp, #4]",
		"strb w0, [x1, #1]":               "strb w0, [x1, #1]",
		"strb w0, [x1, #-1]":              "sturb w0, [x1, #-1]",
		"strh w0, [x1, #2]":               "strh w0, [x1, #2]",
		"strh w0, [x1, #1]":               "sturh w0, [x1, #1]",
		"strh x0, [x1, #2]":               "strh x0, [x1, #2]",
		"ldrb w0, [x1, #3]":               "ldrb w0, [x1, #3]",
		"ldrb w0, [x1, #-3]":              "ldurb w0, [x1, #-3]",
		"ldrh w0, [x1, #3]":               "ldurh w0, [x1, #3]",
		"ldrsb x0, [x1, #3]":              "ldrsb x0, [x1, #3]",
		"ldrsb w0, [x1, #-3]":             "ldursb w0, [x1, #-3]",
		"ldrsh x0, [x1, #6]":              "ldrsh x0, [x1, #6]",
		"ldrsh w0, [x1, #3]":              "ldursh w0, [x1, #3]",
		"ldrsw x0, [x1, #4]":              "ldrsw x0, [x1, #4]",
		"ldrsw x0, [x1, #2]":              "ldursw x0, [x1, #2]",
		"prfm pldl1keep, [x1, #8]":        "prfm pldl1keep, [x1, #8]",
		"prfm pldl1keep, [x1, #4]":        "prfum pldl1keep, [x1, #4]",
		"prfm #6, [x1, #-1]":              "prfum #6, [x1, #-1]",
		"prfm w0, [x1, #4]":               "prfm w0, [x1, #4]",
		"ldur x0, [x1, #8]":               "ldur x0, [x1, #8]",
		"ldtr x0, [x1, #-8]":              "ldtr x0, [x1, #-8]",
		"ldar x0, [x1, #-8]":              "ldar x0, [x1, #-8]",
		"ldp x0, [x1, #-8]":               "ldp x0, [x1, #-8]",
		"msr spsel, #1":                   "msr spsel, #1",
		"dsb sy":                          "dsb sy",
		"prfm pldl1keep, [x1], #-8":       "prfm pldl1keep, [x1], #-8",
		"strb [x1, #-1], w0":              "strb [x1, #-1], w0",
		"ldrsw x0, [x1, #-4], x2, x3, x4": "ldrsw x0, [x1, #-4], x2, x3, x4",
	} {
		if got := match.Norm(line(t, s)); text(got) != want {
			t.Errorf("Norm(%s): %s, not %s", s, text(got), want)
		}
	}
}

// P12.1: operands that have no text of their own, and such as may not be.
func TestNormOdd(t *testing.T) {
	low := num(-1)
	low.Lo = true
	weird := num(8192)
	weird.Amt, weird.N = 3, 7
	shifted := num(9)
	shifted.Mod, shifted.Lo = api.ModLsl, true
	plainLow := num(9)
	plainLow.Lo = true
	for _, c := range []struct {
		name     string
		in, want []api.Oper
		become   string
	}{
		{name: "b", in: []api.Oper{to(api.Value{Add: 8})}, want: []api.Oper{num(8)}},
		{name: "b", in: []api.Oper{to(sym("v", 8))}, want: []api.Oper{to(sym("v", 8))}},
		{name: "dsb", in: []api.Oper{{Kind: api.OrBar, N: 4}}, want: []api.Oper{num(4)}},
		{name: "dsb", in: []api.Oper{{Kind: api.OrBar, N: 15}}, want: []api.Oper{{Kind: api.OrBar, N: 15}}},
		{name: "prfm", in: []api.Oper{{Kind: api.OrPrf, N: 31}}, want: []api.Oper{num(31)}},
		{name: "msr", in: []api.Oper{{Kind: api.OrFld}, num(1)}, want: []api.Oper{{Kind: api.OrSys, N: 16912}, num(1)}},
		{name: "msr", in: []api.Oper{{Kind: api.OrFld, N: 1}, num(1)}, want: []api.Oper{{Kind: api.OrFld, N: 1}, num(1)}},
		{name: "mov", in: []api.Oper{reg(0, false), to(api.Value{Add: -1})}, want: []api.Oper{reg(0, false), num(1<<32 - 1)}},
		{name: "mov", in: []api.Oper{reg(0, false), low}, want: []api.Oper{reg(0, false), low}},
		{name: "cmp", in: []api.Oper{{Kind: api.OrPrf, N: 4096}}, want: []api.Oper{{Kind: api.OrPrf, N: 4096}}},
		{name: "cmp", in: []api.Oper{weird}, want: []api.Oper{{Kind: api.OrNum, N: 7, Mod: api.ModLsl, Amt: 12, V: api.Value{Add: 2}}}},
		{name: "x", in: []api.Oper{shifted}, want: []api.Oper{plainLow}},
		{name: "x", in: []api.Oper{{Kind: api.OrTo, Mod: api.ModLsl}}, want: []api.Oper{{Kind: api.OrTo, Mod: api.ModLsl}}},
		{name: "x", in: []api.Oper{{Mod: api.ModLsl}}, want: []api.Oper{{Mod: api.ModLsl}}},
		{name: "ldr", in: []api.Oper{{}, mem(api.MmOff, api.Value{Add: 4})}, want: []api.Oper{{}, mem(api.MmOff, api.Value{Add: 4})}, become: "ldur"},
		{name: "ldr", in: []api.Oper{{}, mem(4, api.Value{Add: 4})}, want: []api.Oper{{}, mem(4, api.Value{Add: 4})}},
		{name: "ldr", in: []api.Oper{{Kind: api.OrMem, R: api.Reg{N: 3}}, mem(0, api.Value{Add: 4})}, want: []api.Oper{{Kind: api.OrMem, R: api.Reg{N: 3}}, mem(0, api.Value{Add: 4})}, become: "ldur"},
	} {
		want := api.Line{Name: c.name, Opers: c.want}
		if c.become != "" {
			want.Name = c.become
		}
		if got := match.Norm(api.Line{Name: c.name, Opers: c.in}); key(got) != key(want) {
			t.Errorf("Norm(%s %s): %s, not %s", c.name, shown(c.in), shown(got), shown(want))
		}
	}
}

// P12.2: of all classes, with all that a hole may hang on, and beyond.
func TestHole(t *testing.T) {
	for op := -1; op <= 34; op++ {
		for n := range 8 {
			for _, b := range []int64{-1, 0, 1, 2, 3, 4, 1 << 20} {
				for _, c := range []int64{-1, 0, 1, 2} {
					x := api.Inst{Op: op, X: n&1 != 0, S: n&2 != 0, B: b, C: c, A: 77, Rd: 99, Rn: -1}
					low := n&4 != 0
					want, has := ruledHole(x, low)
					if h, ok := match.Hole(x, low); ok != has || h != want {
						t.Fatalf("Hole(%+v, %v): %+v, %v, not %+v, %v", x, low, h, ok, want, has)
					}
				}
			}
		}
	}
}

// P12.3: lines, in the forms of all rows of the table, and their words, which another assembler (llvm-mc 14) makes of them, too.
func TestFindWords(t *testing.T) {
	for s, want := range findWords() {
		x, h, e := match.Find(line(t, s))
		w, _ := enc.Encode(x)
		if e != api.OK || w != want || h != (api.Hole{}) {
			t.Errorf("Find(%s): %+v (%08x), %+v, %d, not %08x", s, x, w, h, e, want)
		}
	}
}

// P12.3: lines that are no instruction.
func TestFindNothing(t *testing.T) {
	for s := range strings.Lines(strings.TrimSpace(noLines)) {
		s = strings.TrimSpace(s)
		if x, h, e := match.Find(line(t, s)); e != api.ErrMatch || x != (api.Inst{}) || h != (api.Hole{}) {
			t.Errorf("Find(%s): %+v, %+v, %d", s, x, h, e)
		}
	}
	for _, l := range []api.Line{
		{},
		{Name: "-"},
		{Name: "-", Opers: []api.Oper{reg(0, true), reg(1, true), reg(2, true)}},
		{Opers: []api.Oper{reg(0, true), mem(0, api.Value{})}},
		{Name: "add", Opers: []api.Oper{reg(32, true), reg(1, true), reg(2, true)}},
		{Name: "add", Opers: []api.Oper{reg(-1, true), reg(1, true), reg(2, true)}},
		{Name: "mov", Opers: []api.Oper{reg(99, true), num(1)}},
		{Name: "mov", Opers: []api.Oper{{Kind: api.OrReg, R: api.Reg{N: 1, SP: true}}, num(1)}},
		{Name: "mov", Opers: []api.Oper{{}, {}}},
		{Name: "b", Opers: []api.Oper{{Kind: api.OrTo, V: api.Value{Add: 8}, N: 1}}},
		{Name: "b", Opers: []api.Oper{{Kind: api.OrNum, V: api.Value{Add: 8}, Mode: 1}}},
		{Name: "b.", Opers: []api.Oper{num(8)}},
		{Name: "b.EQ", Opers: []api.Oper{num(8)}},
		{Name: "ldr", Opers: []api.Oper{reg(0, true), mem(4, api.Value{})}},
		{Name: "cset", Opers: []api.Oper{reg(0, true), {Kind: api.OrCond, N: 16}}},
		{Name: "cset", Opers: []api.Oper{reg(0, true), {Kind: api.OrCond, N: -1}}},
		{Name: "ccmp", Opers: []api.Oper{reg(0, true), num(1 << 32), num(0), {Kind: api.OrCond}}},
		{Name: "nop", Opers: make([]api.Oper, 100000)},
		{Name: strings.Repeat("a", 100000)},
		{Name: "add", Opers: slices.Repeat([]api.Oper{reg(0, true)}, 100000)},
	} {
		if x, h, e := match.Find(l); e != api.ErrMatch || x != (api.Inst{}) || h != (api.Hole{}) {
			t.Errorf("Find(%s): %+v, %+v, %d", shown(l), x, h, e)
		}
	}
}

// P12.3: lines with symbols, their words with zeros in the hole, and the hole.
func TestFindHoles(t *testing.T) {
	for _, c := range []struct {
		line string
		word uint32
		hole api.Hole
	}{
		{"b loop", 0x14000000, api.Hole{Kind: api.HoB26, V: sym("loop", 0)}},
		{"b .", 0x14000000, api.Hole{Kind: api.HoB26, V: sym(".", 0)}},
		{"b a-b-4", 0x14000000, api.Hole{Kind: api.HoB26, V: api.Value{Plus: "a", Minus: "b", Add: -4}}},
		{"b 0-b", 0x14000000, api.Hole{Kind: api.HoB26, V: api.Value{Minus: "b"}}},
		{"bl f+4", 0x94000000, api.Hole{Kind: api.HoCall26, V: sym("f", 4)}},
		{"b.hs l", 0x54000002, api.Hole{Kind: api.HoCond19, V: sym("l", 0)}},
		{"cbz w3, l", 0x34000003, api.Hole{Kind: api.HoCond19, V: sym("l", 0)}},
		{"cbnz x1, l", 0xb5000001, api.Hole{Kind: api.HoCond19, V: sym("l", 0)}},
		{"tbz w3, #31, l", 0x36f80003, api.Hole{Kind: api.HoTst14, V: sym("l", 0)}},
		{"tbnz x3, #32, l-8", 0xb7000003, api.Hole{Kind: api.HoTst14, V: sym("l", -8)}},
		{"ldr x0, v", 0x58000000, api.Hole{Kind: api.HoLd19, V: sym("v", 0)}},
		{"ldr w0, v", 0x18000000, api.Hole{Kind: api.HoLd19, V: sym("v", 0)}},
		{"ldrsw x0, v", 0x98000000, api.Hole{Kind: api.HoLd19, V: sym("v", 0)}},
		{"prfm pldl1strm, v", 0xd8000001, api.Hole{Kind: api.HoLd19, V: sym("v", 0)}},
		{"adr x9, v", 0x10000009, api.Hole{Kind: api.HoAdr21, V: sym("v", 0)}},
		{"adrp x9, v+4096", 0x90000009, api.Hole{Kind: api.HoAdrp21, V: sym("v", 4096)}},
		{"add x0, x1, :lo12:v", 0x91000020, api.Hole{Kind: api.HoAdd12, V: sym("v", 0)}},
		{"add wsp, w1, :lo12:v+8", 0x1100003f, api.Hole{Kind: api.HoAdd12, V: sym("v", 8)}},
		{"add x0, x1, :lo12:8192", 0x91000020, api.Hole{Kind: api.HoAdd12, V: api.Value{Add: 8192}}},
		{"ldrb w0, [x1, :lo12:v]", 0x39400020, api.Hole{Kind: api.HoLd12, V: sym("v", 0)}},
		{"strh w0, [x1, :lo12:v+1]", 0x79000020, api.Hole{Kind: api.HoLd12, Size: 1, V: sym("v", 1)}},
		{"ldr w0, [x1, :lo12:v]", 0xb9400020, api.Hole{Kind: api.HoLd12, Size: 2, V: sym("v", 0)}},
		{"ldrsw x0, [x1, :lo12:v]", 0xb9800020, api.Hole{Kind: api.HoLd12, Size: 2, V: sym("v", 0)}},
		{"str x0, [sp, :lo12:v-8]", 0xf90003e0, api.Hole{Kind: api.HoLd12, Size: 3, V: sym("v", -8)}},
		{"prfm pldl1keep, [x1, :lo12:v]", 0xf9800020, api.Hole{Kind: api.HoLd12, Size: 3, V: sym("v", 0)}},
		{"ldr x0, [x1, :lo12:0]", 0xf9400020, api.Hole{Kind: api.HoLd12, Size: 3}},
		// Of tbz the document asks no more than an OrTo, wherever it stands.
		{"tbz w3, v, #8", 0x36000043, api.Hole{Kind: api.HoTst14, V: sym("v", 0)}},
	} {
		x, h, e := match.Find(line(t, c.line))
		w, _ := enc.Encode(x)
		if e != api.OK || w != c.word || h != c.hole {
			t.Errorf("Find(%s): %08x, %+v, %d, not %08x, %+v", c.line, w, h, e, c.word, c.hole)
		}
	}
}

// P12.3: symbols where there may be none, and lines that have no hole.
func TestFindNoHole(t *testing.T) {
	for s, want := range map[string]api.Errno{
		"add x0, x1, #v":               api.ErrSymbol,
		"add x0, x1, #0-v":             api.ErrSymbol,
		"nothing #v":                   api.ErrSymbol,
		"b #v":                         api.ErrSymbol,
		"ldr x0, [x1, #v]":             api.ErrSymbol,
		"ldr x0, [x1, #v]!":            api.ErrSymbol,
		"ldr x0, [x1], #v":             api.ErrSymbol,
		"b v, w":                       api.ErrSymbol,
		"tbz w0, v, w":                 api.ErrSymbol,
		"add x0, :lo12:v, :lo12:4":     api.ErrSymbol,
		"add x0, :lo12:4, :lo12:4":     api.ErrSymbol,
		"tbz w0, #v, w":                api.ErrSymbol,
		"tbz w0, w, #v":                api.ErrSymbol,
		"nothing v":                    api.ErrMatch,
		"nothing :lo12:v":              api.ErrMatch,
		"b x0, v":                      api.ErrMatch,
		"b :lo12:v":                    api.ErrMatch,
		"adr w0, v":                    api.ErrMatch,
		"adr x0, :lo12:v":              api.ErrMatch,
		"ldr x0, :lo12:v":              api.ErrMatch,
		"add x0, x1, v":                api.ErrMatch,
		"add x0, xzr, :lo12:v":         api.ErrMatch,
		"adds x0, x1, :lo12:v":         api.ErrMatch,
		"sub x0, x1, :lo12:v":          api.ErrMatch,
		"cmn x1, :lo12:v":              api.ErrMatch,
		"mov x0, :lo12:v":              api.ErrMatch,
		"mov x0, v":                    api.ErrMatch,
		"movz x0, :lo12:v":             api.ErrMatch,
		"and x0, x1, :lo12:v":          api.ErrMatch,
		"ldur x0, [x1, :lo12:v]":       api.ErrMatch,
		"ldtr x0, [x1, :lo12:v]":       api.ErrMatch,
		"ldp x0, x1, [x2, :lo12:v]":    api.ErrMatch,
		"ldar x0, [x1, :lo12:v]":       api.ErrMatch,
		"ldrsw w0, [x1, :lo12:v]":      api.ErrMatch,
		"prfm v, [x1]":                 api.ErrMatch,
		"ret v":                        api.ErrMatch,
		"svc v":                        api.ErrMatch,
		"hint v":                       api.ErrMatch,
		"msr daifset, v":               api.ErrMatch,
		"ccmp x0, v, #1, eq":           api.ErrMatch,
		"sys v, #0, #0, #0":            api.ErrMatch,
		"ubfm x0, x1, v, #1":           api.ErrMatch,
		"add x0, x1, #1, :lo12:v":      api.ErrMatch,
		"tbz x0, #3, v":                api.ErrMatch,
		"tbnz w0, #32, v":              api.ErrMatch,
		"ldr x0, [x1, w2, sxtw #1], v": api.ErrMatch,
	} {
		if x, h, e := match.Find(line(t, s)); e != want || x != (api.Inst{}) || h != (api.Hole{}) {
			t.Errorf("Find(%s): %+v, %+v, %d, not %d", s, x, h, e, want)
		}
	}
}

// P12.3: operands that may not be, with symbols or Lo: what the document says of their fields holds of them, too.
func TestFindOddHoles(t *testing.T) {
	add := func(o ...api.Oper) api.Line { return api.Line{Name: "add", Opers: o} }
	shifted := num(0)
	shifted.V, shifted.Lo, shifted.Mod, shifted.Amt = sym("v", 0), true, api.ModLsl, 12
	named := reg(1, true)
	named.V = sym("v", 0)
	low := reg(1, true)
	low.Lo = true
	place := to(sym("v", 0))
	place.Lo, place.N, place.Mod, place.Amt = true, 3, api.ModLsl, 12
	pre := mem(api.MmPre, sym("v", 0))
	pre.Lo = true
	for _, c := range []struct {
		line api.Line
		hole api.Hole
		want api.Errno
	}{
		{add(reg(0, true), reg(1, true), shifted), api.Hole{}, api.ErrMatch},
		{add(reg(0, true), named, num(4)), api.Hole{}, api.ErrSymbol},
		{add(reg(0, true), low, num(4)), api.Hole{Kind: api.HoAdd12}, api.OK},
		{add(reg(0, true), reg(1, true), low), api.Hole{}, api.ErrMatch},
		{add(reg(0, true), reg(1, true), place), api.Hole{Kind: api.HoAdd12, V: sym("v", 0)}, api.OK},
		{api.Line{Name: "b", Opers: []api.Oper{place}}, api.Hole{}, api.ErrMatch},
		{api.Line{Name: "b", Opers: []api.Oper{to(api.Value{Plus: "v", Minus: "v"})}}, api.Hole{Kind: api.HoB26, V: api.Value{Plus: "v", Minus: "v"}}, api.OK},
		{api.Line{Name: "b", Opers: []api.Oper{to(sym("x0", 0))}}, api.Hole{Kind: api.HoB26, V: sym("x0", 0)}, api.OK},
		{api.Line{Name: "b", Opers: []api.Oper{to(sym("1 2", 0))}}, api.Hole{Kind: api.HoB26, V: sym("1 2", 0)}, api.OK},
		{api.Line{Name: "ldr", Opers: []api.Oper{reg(0, true), pre}}, api.Hole{}, api.ErrMatch},
		{api.Line{Name: "x", Opers: slices.Repeat([]api.Oper{place}, 100000)}, api.Hole{}, api.ErrSymbol},
	} {
		x, h, e := match.Find(c.line)
		if e != c.want || h != c.hole || e != api.OK && x != (api.Inst{}) {
			t.Errorf("Find(%s): %+v, %+v, %d", shown(c.line), x, h, e)
		}
	}
}

// P12.4: symbols' values in their places, and whether there are symbols where none may be.
func TestBind(t *testing.T) {
	for _, c := range []struct {
		line, name string
		v          int64
		want       string
	}{
		{"add x0, x1, #v-2", "v", 10, "add x0, x1, #8"},
		{"add x0, x1, #v-2", "w", 10, "add x0, x1, #v-2"},
		{"add x0, x1, #v-2", "", 10, "add x0, x1, #v-2"},
		{"add x0, x1, #2", "", 10, "add x0, x1, #2"},
		{"add x0, x1, #0-v+1", "v", 10, "add x0, x1, #-9"},
		{"add x0, x1, #v-w", "w", 10, "add x0, x1, #v-10"},
		{"add x0, x1, #v-w", "v", 10, "add x0, x1, #0-w+10"},
		{"add x0, x1, #v-w", "", 10, "add x0, x1, #v-w"},
		{"any #v, w, [x1, :lo12:v+1], [x2, #v-w]!, v-w", "v", -3, "any #-3, w, [x1, :lo12:-2], [x2, #0-w-3]!, 0-w-3"},
		{"b v", "v", 8, "b #8"},
		{"b .", ".", 8, "b #8"},
		{"b v+9223372036854775807", "v", 1, "b #-9223372036854775808"},
		{"b 0-v+9223372036854775807", "v", -1, "b #-9223372036854775808"},
		{"b 0-v", "v", math.MinInt64, "b #-9223372036854775808"},
		{"v v", "v", 8, "v #8"},
		{"nop", "v", 8, "nop"},
		{"add x0, v0, x2", "x0", 8, "add x0, v0, x2"},
		{"b V", "v", 8, "b V"},
	} {
		if got := match.Bind(line(t, c.line), c.name, c.v); text(got) != c.want {
			t.Errorf("Bind(%s, %q, %d): %s, not %s", c.line, c.name, c.v, text(got), c.want)
		}
	}
	both := api.Oper{Kind: 77, Mod: 5, V: api.Value{Plus: "v", Minus: "v", Add: 3}}
	got := match.Bind(api.Line{Name: "x", Opers: []api.Oper{both}}, "v", 100)
	both.V = api.Value{Add: 3}
	if key(got) != key(api.Line{Name: "x", Opers: []api.Oper{both}}) {
		t.Errorf("Bind of both: %s", shown(got))
	}
	x, h, e := match.Find(match.Bind(line(t, "b v-4"), "v", 12))
	if (x != api.Inst{Op: api.OpB, A: 2}) || h != (api.Hole{}) || e != api.OK {
		t.Errorf("Find of what is bound: %+v, %+v, %d", x, h, e)
	}
}

// P12.4.
func TestBound(t *testing.T) {
	for s, want := range map[string]bool{
		"nop":                              true,
		"add x0, x1, #8":                   true,
		"add x0, x1, #v":                   false,
		"add x0, x1, #0-v":                 false,
		"add x0, x1, :lo12:v":              true,
		"b v":                              true,
		"b v-w":                            true,
		"b #v":                             false,
		"ldr x0, [x1, #v]":                 false,
		"ldr x0, [x1, #v]!":                false,
		"ldr x0, [x1], #0-v":               false,
		"ldr x0, [x1, :lo12:v]":            true,
		"nothing v, w, :lo12:v":            true,
		"nothing v, w, #w, :lo12:v":        false,
		"nothing #v, v":                    false,
		"nothing v, [x0, :lo12:v], #1, #v": false,
	} {
		if match.Bound(line(t, s)) != want {
			t.Errorf("Bound(%s): not %v", s, want)
		}
	}
	for o, want := range map[api.Oper]bool{
		{}:                             true,
		{V: sym("v", 0)}:               false,
		{V: api.Value{Minus: "v"}}:     false,
		{Kind: 1, V: sym("v", 0)}:      false,
		{Kind: 99, Lo: true}:           true,
		{Lo: true, V: sym("v", 0)}:     true,
		{Kind: 3, V: sym("1", 0)}:      true,
		{Kind: 4, N: 5, V: sym("", 5)}: true,
	} {
		if match.Bound(api.Line{Opers: []api.Oper{num(1), o}}) != want {
			t.Errorf("Bound(%+v): not %v", o, want)
		}
	}
}

// P12.5: Find of both lines of an instruction is the instruction; and there is no other one that has these lines.
func TestThereAndBack(t *testing.T) {
	k := known{}
	for x := range usualInsts() {
		k.holdAlone(t, x)
		holdBack(t, x)
	}
	r := rand.New(rand.NewPCG(12, 5))
	for op := api.OpAdr; op <= api.OpDp3; op++ {
		for range 2000 {
			x := drawn(r, op)
			k.holdAlone(t, x)
			holdBack(t, x)
		}
	}
}

func holdBack(t *testing.T, x api.Inst) {
	t.Helper()
	plain, _ := alias.Plain(x)
	preferred, _ := alias.Line(x)
	for _, l := range []api.Line{plain, preferred} {
		if y, h, e := match.Find(l); e != api.OK || y != x || h != (api.Hole{}) {
			t.Fatalf("Find(%s): %+v, %+v, %d, not %+v", text(l), y, h, e, x)
		}
	}
}

// P12.3, P12.5, P12.6: lines of which a name or an operand is another one, or one is left out or put in: what is found is it, and of those that are known each is found.
func TestChangedLines(t *testing.T) {
	k := usualLines()
	names := append(slices.Collect(alias.Names()), "b.hs", "b.lo", "", "-", "ldursx", "stxpb", "ldxprh", "strsb", "prfur", "prftm", "b.", "ldurp", "movi", "c")
	others := pool()
	r := rand.New(rand.NewPCG(12, 3))
	seen := map[api.Errno]int{}
	for op := api.OpAdr; op <= api.OpDp3; op++ {
		for range 300 {
			x := drawn(r, op)
			l, _ := alias.Line(x)
			if r.IntN(2) == 0 {
				l, _ = alias.Plain(x)
			}
			for range 12 {
				seen[k.hold(t, changed(r, l, names, others))]++
			}
		}
	}
	if seen[api.OK] < 5000 || seen[api.ErrMatch] < 5000 || seen[api.ErrSymbol] < 1000 {
		t.Errorf("too few: %v", seen)
	}
}

// changed is a line with one change, or some.
func changed(r *rand.Rand, l api.Line, names []string, others []api.Oper) api.Line {
	c := api.Line{Name: l.Name, Opers: slices.Clone(l.Opers)}
	for range 1 + r.IntN(2) {
		at := r.IntN(len(c.Opers) + 1)
		switch n := r.IntN(12); {
		case n == 0:
			c.Name = names[r.IntN(len(names))]
		case n == 1 || at == len(c.Opers):
			c.Opers = slices.Insert(c.Opers, at, others[r.IntN(len(others))])
		case n == 2:
			c.Opers = slices.Delete(c.Opers, at, at+1)
		case n < 8:
			c.Opers[at] = others[r.IntN(len(others))]
		default:
			c.Opers[at] = nudged(r, c.Opers[at])
		}
	}
	return c
}

// nudged is an operand of which one field is another one, or that is another one by which Norm makes the same.
func nudged(r *rand.Rand, o api.Oper) api.Oper {
	switch r.IntN(14) {
	case 0:
		o.R.N = []int{0, 1, 30, 31}[r.IntN(4)]
	case 1:
		o.R.X = !o.R.X
	case 2:
		o.R.SP = !o.R.SP
	case 3:
		o.V.Add = []int64{0, 1, 2, 3, 4, 8, 16, 64}[r.IntN(8)]
	case 4:
		o.V.Add = -o.V.Add
	case 5:
		o.V.Add *= 4096
	case 6:
		o.V.Add -= 1 << 32
	case 7:
		o.Mod, o.Amt = api.ModLsl, 0
	case 8:
		o.Mod, o.Amt = r.IntN(14), r.IntN(5)
	case 9:
		o.Lo = !o.Lo
	case 10:
		o.Mode = r.IntN(4)
	case 11:
		o.Kind = 1 + r.IntN(9)
	case 12:
		o.V.Plus = "v"
	case 13:
		o.N = int64(r.IntN(32))
	}
	return o
}

// P12.3: every name of every line, with every operand of the pool, alone and behind a register: what is found is it, and what is known is found.
func TestEachName(t *testing.T) {
	k := usualLines()
	found := 0
	for name := range alias.Names() {
		for _, o := range pool() {
			for _, l := range []api.Line{{Name: name}, {Name: name, Opers: []api.Oper{o}}, {Name: name, Opers: []api.Oper{reg(0, true), o}}, {Name: name, Opers: []api.Oper{reg(0, false), o}}} {
				if k.hold(t, l) == api.OK {
					found++
				}
			}
		}
	}
	if found < 1000 {
		t.Errorf("only %d", found)
	}
}

// P12.1, P12.7: Norm as the document's rules say, and once; what is handed in stays as it is, and what is answered is nobody else's.
func TestNormOnce(t *testing.T) {
	r := rand.New(rand.NewPCG(12, 1))
	names := append(slices.Collect(alias.Names()), "b.hs", "b.lo", "")
	others := pool()
	for range 150000 {
		x := drawn(r, 1+r.IntN(api.OpDp3))
		l, _ := alias.Line(x)
		l = changed(r, l, names, others)
		before := key(l)
		n := match.Norm(l)
		if want := ruledNorm(l); key(n) != key(want) {
			t.Fatalf("Norm(%s): %s, not %s", shown(l), shown(n), shown(want))
		}
		if twice := match.Norm(n); key(twice) != key(n) {
			t.Fatalf("Norm twice of %s: %s, not %s", shown(l), shown(twice), shown(n))
		}
		b := match.Bind(l, "v", 4)
		for i := range n.Opers {
			n.Opers[i], b.Opers[i] = api.Oper{Kind: 55}, api.Oper{Kind: 66}
		}
		match.Find(l)
		match.Bound(l)
		if key(l) != before {
			t.Fatalf("%s was changed: %s", before, key(l))
		}
	}
}
