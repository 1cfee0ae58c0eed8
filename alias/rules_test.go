package alias_test

import (
	"math/bits"
	"strings"
	"testing"

	"cooper/alias"
	"cooper/api"
	"cooper/logimm"
)

// rule is what the document says of a class: a name, and operands by the document's own words (told by oper). Without a name it says nothing.
type rule func(x api.Inst) (name, opers string)

// when is a text, if something holds.
func when(is bool, s string) string {
	if is {
		return s
	}
	return ""
}

// or is one text, if something holds, else the other.
func or(is bool, s, other string) string {
	if is {
		return s
	}
	return other
}

// by is the name with a number among names.
func by(n int64, names string) string { return strings.Split(names, " ")[n] }

// sum is add or sub, and s with S.
func sum(x api.Inst) string { return by(x.B, "add sub") + when(x.S, "s") }

// transfer is what stands behind st or ld by size and opc: the document's own words of it.
func transfer(x api.Inst, r string) string {
	switch {
	case x.C == 2 && x.B == 3:
		return or(r == "ur", "prfum", "prfm")
	case x.C >= 2:
		return "ld" + r + by(x.B, "sb sh sw")
	}
	return by(x.C, "st ld") + r + []string{"b", "h", "", ""}[x.B]
}

// target is the register of a load or store.
func target(x api.Inst) string {
	switch {
	case x.C == 2 && x.B == 3:
		return "prf"
	case x.C == 2 || x.B == 3:
		return "xd"
	}
	return "wd"
}

// plainRules are P7.1, class by class.
var plainRules = map[int]rule{
	api.OpAdr:    func(x api.Inst) (string, string) { return or(x.X, "adrp", "adr"), or(x.X, "xd toA*4096", "xd toA") },
	api.OpAddImm: func(x api.Inst) (string, string) { return sum(x), or(x.S, "d", "d|sp") + " n|sp #A<12C" },
	api.OpLogImm: func(x api.Inst) (string, string) {
		return by(x.B, "and orr eor ands"), or(x.B == 3, "d", "d|sp") + " n #A"
	},
	api.OpMovWide:  func(x api.Inst) (string, string) { return by(x.B, "movn ? movz movk"), "d #A<16C" },
	api.OpBitfield: func(x api.Inst) (string, string) { return by(x.B, "sbfm bfm ubfm"), "d n #A #C" },
	api.OpExtract:  func(x api.Inst) (string, string) { return "extr", "d n m #A" },
	api.OpBCond: func(x api.Inst) (string, string) {
		return "b." + by(x.B, "eq ne cs cc mi pl vs vc hi ls ge lt gt le al nv"), "toA*4"
	},
	api.OpB:  func(x api.Inst) (string, string) { return or(x.S, "bl", "b"), "toA*4" },
	api.OpCb: func(x api.Inst) (string, string) { return by(x.B, "cbz cbnz"), "d toA*4" },
	api.OpTb: func(x api.Inst) (string, string) {
		return by(x.B, "tbz tbnz"), or(x.C > 31, "xd", "wd") + " #C toA*4"
	},
	api.OpBr:   func(x api.Inst) (string, string) { return by(x.B, "br blr ret ? eret"), when(x.B != 4, "xn") },
	api.OpExc:  func(x api.Inst) (string, string) { return by(x.B, "svc hvc smc brk hlt dcps1 dcps2 dcps3"), "#A" },
	api.OpHint: func(x api.Inst) (string, string) { return "hint", "#A" },
	api.OpBar: func(x api.Inst) (string, string) {
		return by(x.B, "? ? clrex ? dsb dmb isb"), or(x.B == 4 || x.B == 5, "bar", "#A")
	},
	api.OpSysReg: func(x api.Inst) (string, string) { return by(x.B, "msr mrs"), or(x.B == 0, "sys xd", "xd sys") },
	api.OpMsrImm: func(x api.Inst) (string, string) { return "msr", "fld #A" },
	api.OpSys: func(x api.Inst) (string, string) {
		return by(x.B, "sys sysl"), or(x.B == 0, "#op1 #CRn #CRm #op2 xd", "xd #op1 #CRn #CRm #op2")
	},
	api.OpLdLit: func(x api.Inst) (string, string) {
		return by(x.B, "ldr ldr ldrsw prfm"), by(x.B, "wd xd xd prf") + " toA*4"
	},
	api.OpPair: func(x api.Inst) (string, string) {
		name := or(x.S, "ld", "st") + or(x.C == 0, "np", "p") + when(x.B == 1, "sw")
		return name, or(x.B == 0, "wd wa ", "xd xa ") + by(x.C, "[off] [post] [off] [pre]") + or(x.B == 2, "A*8", "A*4")
	},
	api.OpLdImm: func(x api.Inst) (string, string) {
		return transfer(x, "r"), target(x) + " [off]" + by(x.B, "A A*2 A*4 A*8")
	},
	api.OpLdIdx: func(x api.Inst) (string, string) {
		return transfer(x, by(int64(x.Ra), "ur r tr r")), target(x) + " " + by(int64(x.Ra), "[off] [post] [off] [pre]") + "A"
	},
	api.OpLdReg: func(x api.Inst) (string, string) { return transfer(x, "r"), target(x) + " [reg]" },
	api.OpEx: func(x api.Inst) (string, string) {
		name := or(x.S, "ld", "st") + when(x.X, or(x.S, "a", "l")) + by(x.A, "xr xp r") + []string{"b", "h", "", ""}[x.B]
		long := x.B == 3
		return name, when(!x.S && x.A < 2, "wm ") + or(long, "xd", "wd") + when(x.A == 1, or(long, " xa", " wa")) + " [off]0"
	},
	api.OpLogReg: func(x api.Inst) (string, string) {
		return by(x.B, or(x.S, "bic orn eon bics", "and orr eor ands")), "d n m<C,A"
	},
	api.OpAddReg: func(x api.Inst) (string, string) { return sum(x), "d n m<C,A" },
	api.OpAddExt: func(x api.Inst) (string, string) { return sum(x), or(x.S, "d", "d|sp") + " n|sp m*C,A" },
	api.OpAdc:    func(x api.Inst) (string, string) { return by(x.B, "adc sbc") + when(x.S, "s"), "d n m" },
	api.OpCcmp: func(x api.Inst) (string, string) {
		return by(x.B, "ccmn ccmp"), "n " + or(x.S, "#Rm", "m") + " #A condC"
	},
	api.OpCsel: func(x api.Inst) (string, string) { return by(x.B, "csel csinc csinv csneg"), "d n m condA" },
	api.OpDp1: func(x api.Inst) (string, string) {
		return by(x.B, or(x.X, "rbit rev16 rev32 rev clz cls", "rbit rev16 rev ? clz cls")), "d n"
	},
	api.OpDp2: func(x api.Inst) (string, string) {
		if x.B >= 16 {
			return "crc32" + when(x.B >= 20, "c") + by(x.B%4, "b h w x"), "wd wn " + by(x.B%4, "wm wm wm xm")
		}
		return by(x.B, "? ? udiv sdiv ? ? ? ? lslv lsrv asrv rorv"), "d n m"
	},
	api.OpDp3: func(x api.Inst) (string, string) {
		name := by(x.B, "madd msub smaddl smsubl smulh umaddl umsubl umulh")
		return name, []string{"d n m a", "d n m a", "xd wn wm xa", "xd wn wm xa", "xd xn xm", "xd wn wm xa", "xd wn wm xa", "xd xn xm"}[x.B]
	},
}

// preferRules are P7.3, class by class.
var preferRules = map[int]rule{
	api.OpAddImm: func(x api.Inst) (string, string) {
		switch {
		case x.B == 0 && x.A == 0 && x.C == 0 && !x.S && (x.Rd == 31 || x.Rn == 31):
			return "mov", "d|sp n|sp"
		case x.S && x.Rd == 31:
			return by(x.B, "cmn cmp"), "n|sp #A<12C"
		}
		return "", ""
	},
	api.OpLogImm: func(x api.Inst) (string, string) {
		switch {
		case x.B == 1 && x.Rn == 31 && !wide(uint64(x.A), x.X):
			return "mov", "d|sp #A"
		case x.B == 3 && x.Rd == 31:
			return "tst", "n #A"
		}
		return "", ""
	},
	api.OpMovWide: func(x api.Inst) (string, string) {
		usual := x.A != 0 || x.C == 0
		switch {
		case x.B == 2 && usual:
			return "mov", "d #A<<16C"
		case x.B == 0 && usual && !(!x.X && x.A == 65535):
			return "mov", "d #~A<<16C"
		}
		return "", ""
	},
	api.OpBitfield: func(x api.Inst) (string, string) {
		return []rule{preferSbfm, preferBfm, preferUbfm}[x.B](x)
	},
	api.OpExtract: func(x api.Inst) (string, string) { return when(x.Rn == x.Rm, "ror"), "d n #A" },
	api.OpBr:      func(x api.Inst) (string, string) { return when(x.B == 2 && x.Rn == 30, "ret"), "" },
	api.OpExc: func(x api.Inst) (string, string) {
		return when(x.B >= 5 && x.A == 0, by(x.B, "? ? ? ? ? dcps1 dcps2 dcps3")), ""
	},
	api.OpHint: func(x api.Inst) (string, string) {
		return map[int64]string{0: "nop", 1: "yield", 2: "wfe", 3: "wfi", 4: "sev", 5: "sevl", 6: "dgh", 16: "esb", 20: "csdb"}[x.A], ""
	},
	api.OpBar: func(x api.Inst) (string, string) {
		return when(x.A == 15, map[int64]string{2: "clrex", 6: "isb"}[x.B]), ""
	},
	api.OpSys: func(x api.Inst) (string, string) {
		return when(x.B == 0 && x.Rd == 31, "sys"), "#op1 #CRn #CRm #op2"
	},
	api.OpLogReg: func(x api.Inst) (string, string) {
		switch {
		case x.B == 1 && !x.S && x.Rn == 31 && x.A == 0 && x.C == 0:
			return "mov", "d m"
		case x.B == 1 && x.S && x.Rn == 31:
			return "mvn", "d m<C,A"
		case x.B == 3 && !x.S && x.Rd == 31:
			return "tst", "n m<C,A"
		}
		return "", ""
	},
	api.OpAddReg: func(x api.Inst) (string, string) {
		switch {
		case x.S && x.Rd == 31:
			return by(x.B, "cmn cmp"), "n m<C,A"
		case x.B == 1 && x.Rn == 31:
			return "neg" + when(x.S, "s"), "d m<C,A"
		}
		return "", ""
	},
	api.OpAddExt: func(x api.Inst) (string, string) {
		m := "m*C,A"
		if (x.Rn == 31 || x.Rd == 31 && !x.S) && (x.X && x.C == 3 || !x.X && x.C == 2) {
			m = or(x.A == 0, "m", "m<0,A")
		}
		if x.S && x.Rd == 31 {
			return by(x.B, "cmn cmp"), "n|sp " + m
		}
		return sum(x), or(x.S, "d", "d|sp") + " n|sp " + m
	},
	api.OpAdc: func(x api.Inst) (string, string) {
		return when(x.B == 1 && x.Rn == 31, "ngc"+when(x.S, "s")), "d m"
	},
	api.OpCsel: func(x api.Inst) (string, string) {
		switch {
		case x.A == 14 || x.A == 15 || x.Rn != x.Rm:
			return "", ""
		case (x.B == 1 || x.B == 2) && x.Rn == 31:
			return by(x.B, "? cset csetm"), "d cond!A"
		case x.B != 0:
			return by(x.B, "? cinc cinv cneg"), "d n cond!A"
		}
		return "", ""
	},
	api.OpDp2: func(x api.Inst) (string, string) {
		return map[int64]string{8: "lsl", 9: "lsr", 10: "asr", 11: "ror"}[x.B], "d n m"
	},
	api.OpDp3: func(x api.Inst) (string, string) {
		name := when(x.Ra == 31, []string{"mul", "mneg", "smull", "smnegl", "", "umull", "umnegl", ""}[x.B])
		return name, or(x.B < 2, "d n m", "xd wn wm")
	},
}

// wide tells whether movz or movn moves a number: all bits that differ from its filling lie in 16, from a multiple of 16 on.
func wide(v uint64, long bool) bool {
	pieces := map[bool]int{false: 2, true: 4}[long]
	zeros, ones := 0, 0
	for i := range pieces {
		switch v >> (16 * i) & 0xffff {
		case 0:
			zeros++
		case 0xffff:
			ones++
		}
	}
	return zeros >= pieces-1 || ones >= pieces-1
}

func widthOf(x api.Inst) int64 {
	if x.X {
		return 64
	}
	return 32
}

func preferSbfm(x api.Inst) (string, string) {
	switch {
	case x.C == widthOf(x)-1:
		return "asr", "d n #A"
	case x.A == 0 && x.C == 7:
		return "sxtb", "d wn"
	case x.A == 0 && x.C == 15:
		return "sxth", "d wn"
	case x.A == 0 && x.C == 31:
		return "sxtw", "d wn"
	case x.C < x.A:
		return "sbfiz", "d n #w-A #C+1"
	}
	return "sbfx", "d n #A #C-A+1"
}

func preferUbfm(x api.Inst) (string, string) {
	switch {
	case x.C == widthOf(x)-1:
		return "lsr", "d n #A"
	case x.C+1 == x.A:
		return "lsl", "d n #w-A"
	case x.A == 0 && !x.X && x.C == 7:
		return "uxtb", "d n"
	case x.A == 0 && !x.X && x.C == 15:
		return "uxth", "d n"
	case x.C < x.A:
		return "ubfiz", "d n #w-A #C+1"
	}
	return "ubfx", "d n #A #C-A+1"
}

func preferBfm(x api.Inst) (string, string) {
	switch {
	case x.C < x.A && x.Rn == 31:
		return "bfc", "d #w-A #C+1"
	case x.C < x.A:
		return "bfi", "d n #w-A #C+1"
	}
	return "bfxil", "d n #A #C-A+1"
}

// oper is an operand by the document's word of it.
func oper(x api.Inst, word string) api.Oper {
	switch {
	case word[0] == '#':
		return numberOper(x, word[1:])
	case word[0] == '[':
		return memoryOper(x, word)
	case strings.HasPrefix(word, "to"):
		return api.Oper{Kind: api.OrTo, V: api.Value{Add: times(x, word[2:])}}
	}
	switch word {
	case "condA":
		return api.Oper{Kind: api.OrCond, N: x.A}
	case "condC":
		return api.Oper{Kind: api.OrCond, N: x.C}
	case "cond!A":
		return api.Oper{Kind: api.OrCond, N: x.A + 1 - 2*(x.A%2)}
	case "bar":
		return api.Oper{Kind: api.OrBar, N: x.A}
	case "sys":
		return api.Oper{Kind: api.OrSys, N: x.A}
	case "fld":
		return api.Oper{Kind: api.OrFld, N: x.B}
	case "prf":
		return api.Oper{Kind: api.OrPrf, N: int64(x.Rd)}
	}
	return registerOper(x, word)
}

// times is A, or A times a number.
func times(x api.Inst, word string) int64 {
	switch word {
	case "0":
		return 0
	case "A":
		return x.A
	}
	return x.A * map[string]int64{"A*2": 2, "A*4": 4, "A*8": 8, "A*4096": 4096}[word]
}

func numberOper(x api.Inst, word string) api.Oper {
	o := api.Oper{Kind: api.OrNum}
	switch word {
	case "A":
		o.V.Add = x.A
	case "C":
		o.V.Add = x.C
	case "Rm":
		o.V.Add = int64(x.Rm)
	case "w-A":
		o.V.Add = widthOf(x) - x.A
	case "C+1":
		o.V.Add = x.C + 1
	case "C-A+1":
		o.V.Add = x.C - x.A + 1
	case "A<12C", "A<16C":
		o.V.Add = x.A
		if x.C != 0 {
			o.Mod, o.Amt = 1, map[string]int{"A<12C": 12, "A<16C": 16 * int(x.C)}[word]
		}
	case "A<<16C":
		o.V.Add = x.A << (16 * x.C)
	case "~A<<16C":
		o.V.Add = ^(x.A << (16 * x.C))
		if !x.X {
			o.V.Add &= 1<<32 - 1
		}
	case "op1":
		o.V.Add = x.A / 2048
	case "CRn":
		o.V.Add = x.A / 128 % 16
	case "CRm":
		o.V.Add = x.A / 8 % 16
	case "op2":
		o.V.Add = x.A % 8
	default:
		panic(word)
	}
	return o
}

// registerOper is a register: x or w ahead of it says its width, |sp behind it that 31 is the stack's pointer; m<C,A is shifted, m*C,A extended, m<0,A shifted to the left.
func registerOper(x api.Inst, word string) api.Oper {
	o := api.Oper{Kind: api.OrReg, R: api.Reg{X: x.X}}
	word, shifted := strings.CutSuffix(word, "<C,A")
	word, extended := strings.CutSuffix(word, "*C,A")
	word, moved := strings.CutSuffix(word, "<0,A")
	word, stack := strings.CutSuffix(word, "|sp")
	switch {
	case shifted && (x.A != 0 || x.C != 0):
		o.Mod, o.Amt = []int{1, 2, 3, 4}[x.C], int(x.A)
	case extended:
		o.Mod, o.Amt = []int{5, 6, 7, 8, 9, 10, 11, 12}[x.C], int(x.A)
		o.R.X = x.C == 3 || x.C == 7
	case moved:
		o.Mod, o.Amt = 1, int(x.A)
	}
	if len(word) == 2 {
		o.R.X = word[0] == 'x'
		word = word[1:]
	}
	o.R.N = map[string]int{"d": x.Rd, "n": x.Rn, "m": x.Rm, "a": x.Ra}[word]
	o.R.SP = stack && o.R.N == 31
	return o
}

func memoryOper(x api.Inst, word string) api.Oper {
	o := api.Oper{Kind: api.OrMem, R: api.Reg{N: x.Rn, X: true, SP: x.Rn == 31}}
	if word == "[reg]" {
		o.Mode = 3
		o.M = api.Reg{N: x.Rm, X: x.A == 3 || x.A == 7}
		o.Mod = map[int64]int{2: 7, 3: 1, 6: 11, 7: 12}[x.A]
		o.Amt = -1
		if x.S {
			o.Amt = int(x.B)
		}
		return o
	}
	mode, offset, _ := strings.Cut(word[1:], "]")
	o.Mode = map[string]int{"off": 0, "pre": 1, "post": 2}[mode]
	o.V.Add = times(x, offset)
	return o
}

// ruled is the line that the document's words tell.
func ruled(x api.Inst, name, opers string) api.Line {
	l := api.Line{Name: name}
	for word := range strings.FieldsSeq(opers) {
		l.Opers = append(l.Opers, oper(x, word))
	}
	return l
}

func ruledPlain(x api.Inst) api.Line {
	name, opers := plainRules[x.Op](x)
	return ruled(x, name, opers)
}

func ruledLine(x api.Inst) api.Line {
	if r := preferRules[x.Op]; r != nil {
		if name, opers := r(x); name != "" {
			return ruled(x, name, opers)
		}
	}
	return ruledPlain(x)
}

// holdRules holds an instruction's lines against the document's.
func holdRules(t *testing.T, x api.Inst) {
	t.Helper()
	if l, e := alias.Plain(x); e != api.OK || !equal(l, ruledPlain(x)) {
		t.Errorf("Plain(%+v): %+v, %d, not %+v", x, l, e, ruledPlain(x))
	}
	if l, e := alias.Line(x); e != api.OK || !equal(l, ruledLine(x)) {
		t.Errorf("Line(%+v): %+v, %d, not %+v", x, l, e, ruledLine(x))
	}
}

// P7.1, P7.3: instructions of all classes, as the document has them: all of registers that are told apart and numbers at their edges, and as many drawn ones.
func TestRules(t *testing.T) {
	seen := map[int]int{}
	for x := range usualInsts() {
		holdRules(t, x)
		seen[x.Op]++
		if t.Failed() && seen[x.Op] > 100000 {
			t.FailNow()
		}
	}
	for x := range drawnInsts(71, 2000) {
		holdRules(t, x)
		seen[x.Op]++
	}
	for op := api.OpAdr; op <= api.OpDp3; op++ {
		if seen[op] < 1000 {
			t.Errorf("only %d of class %d", seen[op], op)
		}
	}
}

// P7.1, P7.3: all logical immediates: mov is one of movz or movn, if there is one, else orr.
func TestLogicalRules(t *testing.T) {
	for _, width := range []int{32, 64} {
		for _, v := range logimm.All(width) {
			for _, rn := range []int{0, 31} {
				for _, rd := range []int{1, 31} {
					for b := range int64(4) {
						holdRules(t, api.Inst{Op: api.OpLogImm, X: width == 64, Rd: rd, Rn: rn, A: int64(v), B: b})
					}
				}
			}
		}
	}
}

// P7.3: all numbers of wide moves whose bits are few, or ones but few.
func TestWideRules(t *testing.T) {
	for a := range int64(65536) {
		if n := bits.OnesCount64(uint64(a)); n > 3 && n < 13 {
			continue
		}
		for c := range int64(4) {
			for _, b := range []int64{0, 2, 3} {
				holdRules(t, api.Inst{Op: api.OpMovWide, X: true, Rd: 9, A: a, B: b, C: c})
				if c < 2 {
					holdRules(t, api.Inst{Op: api.OpMovWide, Rd: 31, A: a, B: b, C: c})
				}
			}
		}
	}
}
