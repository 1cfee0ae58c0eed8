package dec

import (
	"cooper/api"
	"cooper/bits"
	"cooper/logimm"
)

const (
	regBits = 5
	noReg   = 31 // stands where a register is not used

	// none stands in a field whose bits may not be: it is beyond the limits of each class, so that inst.Check refuses it.
	none = -1
)

// word is an instruction's word, of which fields are read.
type word uint32

// num is as many bits as width says, from low on.
func (w word) num(low, width int) int64 {
	v, _ := bits.Get(uint32(w), api.Field{Low: low, Width: width})
	return int64(v)
}

// signed is such bits with a sign.
func (w word) signed(low, width int) int64 {
	v, _ := bits.Sign(uint64(w.num(low, width)), width)
	return v
}

// bit tells whether a bit is 1.
func (w word) bit(at int) bool { return w.num(at, 1) == 1 }

// reg is the register from low on.
func (w word) reg(low int) int { return int(w.num(low, regBits)) }

// The registers and X, where all classes have them that have them.
func (w word) rd() int { return w.reg(0) }
func (w word) rn() int { return w.reg(5) }
func (w word) ra() int { return w.reg(10) }
func (w word) rm() int { return w.reg(16) }
func (w word) x() bool { return w.bit(31) }

// ifUsed is a register, if one is used there; else 0, for which 11111 has to stand in the word.
func ifUsed(used bool, reg int) int {
	switch {
	case used:
		return reg
	case reg == noReg:
		return 0
	}
	return none
}

// fieldsOf is the instruction whose fields a word of a class has: one that there is not, if the bits break a rule of the class.
func fieldsOf(op int, w word) api.Inst {
	switch {
	case op <= api.OpExtract:
		return ofImmediates(op, w)
	case op <= api.OpBr:
		return ofBranches(op, w)
	case op <= api.OpSys:
		return ofSystem(op, w)
	case op <= api.OpEx:
		return ofLoads(op, w)
	}
	return ofRegisters(op, w)
}

// ofImmediates are the classes that reckon with numbers.
func ofImmediates(op int, w word) api.Inst {
	switch op {
	case api.OpAdr:
		return api.Inst{Op: op, X: w.x(), Rd: w.rd(), A: w.signed(5, 19)<<2 | w.num(29, 2)}
	case api.OpAddImm:
		return api.Inst{Op: op, X: w.x(), S: w.bit(29), Rd: w.rd(), Rn: w.rn(), A: w.num(10, 12), B: w.num(30, 1), C: w.num(22, 1)}
	case api.OpLogImm:
		return api.Inst{Op: op, X: w.x(), Rd: w.rd(), Rn: w.rn(), A: logical(w), B: w.num(29, 2)}
	case api.OpMovWide:
		return api.Inst{Op: op, X: w.x(), Rd: w.rd(), A: w.num(5, 16), B: w.num(29, 2), C: w.num(21, 2)}
	}
	if w.bit(22) != w.x() {
		// X stands twice in the words of the two classes that are left.
		return api.Inst{}
	}
	if op == api.OpBitfield {
		return api.Inst{Op: op, X: w.x(), Rd: w.rd(), Rn: w.rn(), A: w.num(16, 6), B: w.num(29, 2), C: w.num(10, 6)}
	}
	return api.Inst{Op: op, X: w.x(), Rd: w.rd(), Rn: w.rn(), Rm: w.rm(), A: w.num(10, 6)}
}

// ofBranches are the classes that go elsewhere.
func ofBranches(op int, w word) api.Inst {
	switch op {
	case api.OpBCond:
		return api.Inst{Op: op, A: w.signed(5, 19), B: w.num(0, 4)}
	case api.OpB:
		return api.Inst{Op: op, S: w.bit(31), A: w.signed(0, 26)}
	case api.OpCb:
		return api.Inst{Op: op, X: w.x(), Rd: w.rd(), A: w.signed(5, 19), B: w.num(24, 1)}
	case api.OpTb:
		return api.Inst{Op: op, Rd: w.rd(), A: w.signed(5, 14), B: w.num(24, 1), C: w.num(31, 1)<<5 | w.num(19, 5)}
	}
	return branchTo(w)
}

// branchTo is OpBr: eret alone has no register.
func branchTo(w word) api.Inst {
	b := w.num(21, 4)
	return api.Inst{Op: api.OpBr, Rn: ifUsed(b != 4, w.rn()), B: b}
}

// ofSystem are the classes of exceptions, of hints and of the system.
func ofSystem(op int, w word) api.Inst {
	switch op {
	case api.OpExc:
		return api.Inst{Op: op, A: w.num(5, 16), B: exception(w.num(21, 3), w.num(0, 2))}
	case api.OpHint:
		return api.Inst{Op: op, A: w.num(5, 7)}
	case api.OpBar:
		return api.Inst{Op: op, A: w.num(8, 4), B: w.num(5, 3)}
	case api.OpSysReg:
		return api.Inst{Op: op, Rd: w.rd(), A: w.num(5, 15), B: w.num(21, 1)}
	case api.OpMsrImm:
		return api.Inst{Op: op, A: w.num(8, 4), B: stateField(w.num(16, 3), w.num(5, 3))}
	case api.OpSys:
		return api.Inst{Op: op, Rd: w.rd(), A: w.num(5, 14), B: w.num(21, 1)}
	}
	return api.Inst{}
}

// ofLoads are the classes that load and store.
func ofLoads(op int, w word) api.Inst {
	size := w.num(30, 2)
	switch op {
	case api.OpLdLit:
		return api.Inst{Op: op, Rd: w.rd(), A: w.signed(5, 19), B: size}
	case api.OpPair:
		return api.Inst{Op: op, S: w.bit(22), Rd: w.rd(), Rn: w.rn(), Ra: w.ra(), A: w.signed(15, 7), B: size, C: w.num(23, 3)}
	case api.OpLdImm:
		return api.Inst{Op: op, Rd: w.rd(), Rn: w.rn(), A: w.num(10, 12), B: size, C: w.num(22, 2)}
	case api.OpLdIdx:
		return api.Inst{Op: op, Rd: w.rd(), Rn: w.rn(), Ra: int(w.num(10, 2)), A: w.signed(12, 9), B: size, C: w.num(22, 2)}
	case api.OpLdReg:
		return api.Inst{Op: op, S: w.bit(12), Rd: w.rd(), Rn: w.rn(), Rm: w.rm(), A: w.num(13, 3), B: size, C: w.num(22, 2)}
	}
	return exclusive(w)
}

// exclusive is OpEx.
func exclusive(w word) api.Inst {
	ordered, load, pair := w.bit(23), w.bit(22), w.bit(21)
	x := api.Inst{Op: api.OpEx, X: w.bit(15), S: load, Rd: w.rd(), Rn: w.rn(), B: w.num(30, 2)}
	x.Rm = ifUsed(!load && !ordered, w.rm())
	x.Ra = ifUsed(pair, w.ra())
	// Ordered and a pair at once is 3: a number that A may not be.
	x.A = w.num(23, 1)<<1 | w.num(21, 1)
	return x
}

// ofRegisters are the classes that reckon with registers alone.
func ofRegisters(op int, w word) api.Inst {
	x := api.Inst{Op: op, X: w.x(), Rd: w.rd(), Rn: w.rn(), Rm: w.rm()}
	switch op {
	case api.OpLogReg:
		x.S, x.A, x.B, x.C = w.bit(21), w.num(10, 6), w.num(29, 2), w.num(22, 2)
	case api.OpAddReg:
		x.S, x.A, x.B, x.C = w.bit(29), w.num(10, 6), w.num(30, 1), w.num(22, 2)
	case api.OpAddExt:
		x.S, x.A, x.B, x.C = w.bit(29), w.num(10, 3), w.num(30, 1), w.num(13, 3)
	case api.OpAdc:
		x.S, x.B = w.bit(29), w.num(30, 1)
	case api.OpCcmp:
		x.Rd = 0
		x.S, x.A, x.B, x.C = w.bit(11), w.num(0, 4), w.num(30, 1), w.num(12, 4)
	case api.OpCsel:
		x.A, x.B = w.num(12, 4), w.num(30, 1)<<1|w.num(10, 1)
	case api.OpDp1, api.OpDp2:
		// Zeros are fixed where Rm would stand in the first one.
		x.B = w.num(10, 6)
	case api.OpDp3:
		x.B = product(w.num(21, 3), w.num(15, 1))
		x.Ra = ifUsed(x.B != 4 && x.B != 7, w.ra())
	}
	return x
}

// logical is A of OpLogImm: 0, which is no logical immediate, if there is none.
func logical(w word) int64 {
	width := 32
	if w.x() {
		width = 64
	}
	v, _ := logimm.Value(int(w.num(10, api.LogBits)), width)
	return int64(v)
}

// exception is B of OpExc, by opc and LL.
func exception(opc, ll int64) int64 {
	switch {
	case opc == 0b000 && ll != 0: // svc, hvc, smc
		return ll - 1
	case opc == 0b001 && ll == 0: // brk
		return 3
	case opc == 0b010 && ll == 0: // hlt
		return 4
	case opc == 0b101 && ll != 0: // dcps1 to dcps3
		return ll + 4
	}
	return none
}

// stateField is B of OpMsrImm, by op1 and op2.
func stateField(op1, op2 int64) int64 {
	switch op1<<3 | op2 {
	case 0b000_101: // spsel
		return 0
	case 0b011_110: // daifset
		return 1
	case 0b011_111: // daifclr
		return 2
	case 0b000_100: // pan
		return 3
	case 0b000_011: // uao
		return 4
	case 0b011_010: // dit
		return 5
	}
	return none
}

// product is B of OpDp3, by op31 and o0.
func product(op31, o0 int64) int64 {
	switch {
	case op31 <= 0b001: // madd, msub, smaddl, smsubl
		return op31<<1 | o0
	case op31 == 0b010 && o0 == 0: // smulh
		return 4
	case op31 == 0b101: // umaddl, umsubl
		return 5 + o0
	case op31 == 0b110 && o0 == 0: // umulh
		return 7
	}
	return none
}
