package match

import (
	"strings"

	"cooper/alias"
	"cooper/api"
	"cooper/names"
)

// Numbers that chapter 5 has for B: the first ones of names that stand there one behind the other.
const (
	firstQuotient = 2 // of OpDp2
	firstShift    = 8
	firstSum      = 16
	firstBarrier  = 4 // of OpBar, of those with an option
)

const (
	wholeBarrier = 15 // of clrex and isb, if nothing is said

	condBranch = "b." // ahead of a condition's name
)

// found is the instruction of a line without symbols.
func found(l api.Line) api.Inst {
	t := taker{line: norm(l)}
	t.all()
	if !isOf(t.line, t.x) {
		panic(misfit{api.ErrMatch})
	}
	return t.x
}

// isOf tells whether a line that is as Norm makes it is an instruction's.
func isOf(l api.Line, x api.Inst) bool {
	for _, form := range [...]func(api.Inst) (api.Line, api.Errno){alias.Plain, alias.Line} {
		if own, none := form(x); none == api.OK && alias.Same(norm(own), l) {
			return true
		}
	}
	return false
}

// all makes the instruction. The names of lines stand in groups: each tells whether the name is one of its, and takes the operands then.
func (t *taker) all() {
	for _, group := range [...]func() bool{t.sums, t.logic, t.moves, t.bitfields, t.branches, t.choices, t.sources, t.calls, t.system, t.loads} {
		if group() {
			return
		}
	}
	panic(misfit{api.ErrMatch})
}

// sums are what adds and subtracts, and compares so.
func (t *taker) sums() bool {
	switch {
	case t.is("add", "adds", "sub", "subs"):
		t.begin(api.Inst{B: t.which / 2, S: t.odd()}).take(t.wideD, t.rn, t.addend)
	case t.is("cmn", "cmp"):
		t.begin(api.Inst{B: t.which, S: true, Rd: endReg}).take(t.wideN, t.addend)
	case t.is("neg", "negs"):
		t.begin(api.Inst{Op: api.OpAddReg, B: 1, S: t.odd(), Rn: endReg}).take(t.wideD, t.shiftedM)
	case t.is("adc", "adcs", "sbc", "sbcs"):
		t.begin(api.Inst{Op: api.OpAdc, B: t.which / 2, S: t.odd()}).take(t.wideD, t.rn, t.rm)
	case t.is("ngc", "ngcs"):
		t.begin(api.Inst{Op: api.OpAdc, B: 1, S: t.odd(), Rn: endReg}).take(t.wideD, t.rm)
	default:
		return false
	}
	return true
}

// logic is what goes bit by bit.
func (t *taker) logic() bool {
	switch {
	case t.is("and", "bic", "orr", "orn", "eor", "eon", "ands", "bics"):
		t.begin(api.Inst{B: t.which / 2, S: t.odd()}).take(t.wideD, t.rn, t.mask)
	case t.is("tst"):
		t.begin(api.Inst{B: 3, Rd: endReg}).take(t.wideN, t.mask)
	case t.is("mvn"):
		t.begin(api.Inst{Op: api.OpLogReg, B: 1, S: true, Rn: endReg}).take(t.wideD, t.shiftedM)
	default:
		return false
	}
	return true
}

// moves are what moves a number, or a register.
func (t *taker) moves() bool {
	switch {
	case t.is("mov"):
		t.take(t.wideD, t.moved)
	case t.is("movn", noName, "movz", "movk"):
		t.begin(api.Inst{Op: api.OpMovWide, B: t.which}).take(t.wideD, t.wideA)
	default:
		return false
	}
	return true
}

// bitfields are what shifts, and takes fields out and in.
func (t *taker) bitfields() bool {
	switch {
	case t.is("lsl", "lsr", "asr", "ror"):
		t.take(t.wideD, t.rn, t.shift)
	case t.is("sbfm", "bfm", "ubfm"):
		t.begin(api.Inst{Op: api.OpBitfield, B: t.which}).take(t.wideD, t.rn, t.numA, t.numC)
	case t.is("sbfiz", "bfi", "ubfiz"):
		t.begin(api.Inst{Op: api.OpBitfield, B: t.which}).take(t.wideD, t.rn, t.lowest, t.many)
	case t.is("sbfx", "bfxil", "ubfx"):
		t.begin(api.Inst{Op: api.OpBitfield, B: t.which}).take(t.wideD, t.rn, t.numA, t.manyFromA)
	case t.is("bfc"):
		t.begin(api.Inst{Op: api.OpBitfield, B: 1, Rn: endReg}).take(t.wideD, t.lowest, t.many)
	case t.is("sxtb", "sxth", "sxtw"):
		t.begin(api.Inst{Op: api.OpBitfield, C: 8<<t.which - 1}).take(t.wideD, t.rn)
	case t.is("uxtb", "uxth"):
		t.begin(api.Inst{Op: api.OpBitfield, B: 2, C: 8<<t.which - 1}).take(t.rd, t.rn)
	case t.is("extr"):
		t.begin(api.Inst{Op: api.OpExtract}).take(t.wideD, t.rn, t.rm, t.numA)
	default:
		return false
	}
	return true
}

// branches are what goes elsewhere, and what tells where that is.
func (t *taker) branches() bool {
	cond, byCond := strings.CutPrefix(t.line.Name, condBranch)
	switch {
	case t.is("adr", "adrp"):
		t.begin(api.Inst{Op: api.OpAdr, X: t.odd()}).take(t.rd, t.far)
	case t.is("b", "bl"):
		t.begin(api.Inst{Op: api.OpB, S: t.odd()}).take(t.far)
	case t.is("cbz", "cbnz"):
		t.begin(api.Inst{Op: api.OpCb, B: t.which}).take(t.wideD, t.far)
	case t.is("tbz", "tbnz"):
		t.begin(api.Inst{Op: api.OpTb, B: t.which}).take(t.rd, t.numC, t.far)
	case t.is("br", "blr", "ret"):
		t.begin(api.Inst{Op: api.OpBr, B: t.which, Rn: linkReg}).takeAny(t.rn)
	case t.is("eret"):
		t.begin(api.Inst{Op: api.OpBr, B: 4}).take()
	case byCond:
		n, _ := names.Number(api.KdCond, cond)
		t.begin(api.Inst{Op: api.OpBCond, B: n}).take(t.far)
	default:
		return false
	}
	return true
}

// choices are what hangs on a condition.
func (t *taker) choices() bool {
	switch {
	case t.is("ccmn", "ccmp"):
		t.begin(api.Inst{Op: api.OpCcmp, B: t.which}).take(t.wideN, t.compared, t.numA, t.condC)
	case t.is("csel", "csinc", "csinv", "csneg"):
		t.begin(api.Inst{Op: api.OpCsel, B: t.which}).take(t.wideD, t.rn, t.rm, t.condA)
	case t.is(noName, "cset", "csetm"):
		t.begin(api.Inst{Op: api.OpCsel, B: t.which, Rn: endReg, Rm: endReg}).take(t.wideD, t.otherCond)
	case t.is(noName, "cinc", "cinv", "cneg"):
		t.begin(api.Inst{Op: api.OpCsel, B: t.which}).take(t.wideD, t.bothNM, t.otherCond)
	default:
		return false
	}
	return true
}

// sources are the classes of one, two and three sources.
func (t *taker) sources() bool {
	switch {
	case t.is("rev"):
		t.begin(api.Inst{Op: api.OpDp1}).take(t.reversed, t.rn)
	case t.is("rbit", "rev16", "rev32", noName, "clz", "cls"):
		t.begin(api.Inst{Op: api.OpDp1, B: t.which}).take(t.wideD, t.rn)
	case t.is("udiv", "sdiv"):
		t.begin(api.Inst{Op: api.OpDp2, B: firstQuotient + t.which}).take(t.wideD, t.rn, t.rm)
	case t.is("lslv", "lsrv", "asrv", "rorv"):
		t.begin(api.Inst{Op: api.OpDp2, B: firstShift + t.which}).take(t.wideD, t.rn, t.rm)
	case t.is("crc32b", "crc32h", "crc32w", "crc32x", "crc32cb", "crc32ch", "crc32cw", "crc32cx"):
		t.begin(api.Inst{Op: api.OpDp2, B: firstSum + t.which}).take(t.rd, t.rn, t.wideM)
	case t.is("madd", "msub", "smaddl", "smsubl", noName, "umaddl", "umsubl"):
		t.begin(api.Inst{Op: api.OpDp3, B: t.which}).take(t.wideD, t.rn, t.rm, t.ra)
	case t.is("mul", "mneg", "smull", "smnegl", noName, "umull", "umnegl"):
		t.begin(api.Inst{Op: api.OpDp3, B: t.which, Ra: endReg}).take(t.wideD, t.rn, t.rm)
	case t.is("smulh"):
		t.begin(api.Inst{Op: api.OpDp3, B: 4}).take(t.wideD, t.rn, t.rm)
	case t.is("umulh"):
		t.begin(api.Inst{Op: api.OpDp3, B: 7}).take(t.wideD, t.rn, t.rm)
	default:
		return false
	}
	return true
}

// reversed takes where rev goes: of each width it is another one.
func (t *taker) reversed(o api.Oper) {
	t.wideD(o)
	t.x.B = 2
	if t.x.X {
		t.x.B = 3
	}
}

// calls are exceptions, hints and barriers.
func (t *taker) calls() bool {
	hint, noHint := names.Number(api.KdHint, t.line.Name)
	switch {
	case t.is("svc", "hvc", "smc", "brk", "hlt", "dcps1", "dcps2", "dcps3"):
		t.begin(api.Inst{Op: api.OpExc, B: t.which}).takeAny(t.numA)
	case t.is("hint"):
		t.begin(api.Inst{Op: api.OpHint}).take(t.numA)
	case noHint == api.OK:
		t.begin(api.Inst{Op: api.OpHint, A: hint}).take()
	case t.is("clrex"):
		t.begin(api.Inst{Op: api.OpBar, B: 2, A: wholeBarrier}).takeAny(t.numA)
	case t.is("dsb", "dmb"):
		t.begin(api.Inst{Op: api.OpBar, B: firstBarrier + t.which}).take(t.barrier)
	case t.is("isb"):
		t.begin(api.Inst{Op: api.OpBar, B: 6, A: wholeBarrier}).takeAny(t.numA)
	default:
		return false
	}
	return true
}

// system is what reads and writes the system's registers.
func (t *taker) system() bool {
	switch {
	case t.is("msr") && t.ends(api.OrNum):
		t.begin(api.Inst{Op: api.OpMsrImm}).take(t.field, t.numA)
	case t.is("msr"):
		t.begin(api.Inst{Op: api.OpSysReg}).take(t.systemA, t.rd)
	case t.is("mrs"):
		t.begin(api.Inst{Op: api.OpSysReg, B: 1}).take(t.rd, t.systemA)
	case t.is("sys") && t.ends(api.OrNum):
		t.begin(api.Inst{Op: api.OpSys, Rd: endReg}).take(t.op1, t.crn, t.crm, t.op2)
	case t.is("sys"):
		t.begin(api.Inst{Op: api.OpSys}).take(t.op1, t.crn, t.crm, t.op2, t.rd)
	case t.is("sysl"):
		t.begin(api.Inst{Op: api.OpSys, B: 1}).take(t.rd, t.op1, t.crn, t.crm, t.op2)
	default:
		return false
	}
	return true
}
