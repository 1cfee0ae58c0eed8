package enc

import (
	"cooper/api"
	"cooper/bits"
	"cooper/logimm"
)

const (
	maxParts = 10 // of a class's word
	regBits  = 5
	noReg    = 31 // stands where a register is not used
)

// part is bits of a word that stand beside each other.
type part struct {
	bits  uint32
	width int
	fixed bool
}

// shape is a word's parts, from bit 31 down; what is left of the array has no bits.
type shape [maxParts]part

// tell hands each part on.
func (s shape) tell(put func(part)) {
	for _, p := range s {
		put(p)
	}
}

// word is what is put together from bit 31 down: each part moves the ones ahead of it up.
type word uint32

// put takes a part's bits.
func (w *word) put(p part) { *w = *w<<p.width | word(p.bits) }

// putFixed takes a part's bits, if they are fixed, else zeros.
func (w *word) putFixed(p part) {
	if !p.fixed {
		p.bits = 0
	}
	w.put(p)
}

// putOnes takes as many ones as a part has fixed bits, else zeros.
func (w *word) putOnes(p part) {
	p.bits = uint32(bits.Ones(p.width))
	w.putFixed(p)
}

// fix is bits that are the same in each word of a class.
func fix(digits string) part {
	p := part{width: len(digits), fixed: true}
	for i := range len(digits) {
		p.bits = p.bits<<1 | uint32(digits[i]-'0')
	}
	return p
}

// num is a number's lowest bits.
func num(v int64, width int) part {
	return part{bits: uint32(uint64(v) & bits.Ones(width)), width: width}
}

// bit is one bit: 1, if something holds.
func bit(is bool) part {
	if is {
		return num(1, 1)
	}
	return num(0, 1)
}

// reg is a register.
func reg(n int) part { return num(int64(n), regBits) }

// regIf is a register where one is used.
func regIf(used bool, n int) part {
	if used {
		return reg(n)
	}
	return reg(noReg)
}

// shapeOf is the shape of an instruction's word: of no parts, if there is no such class.
func shapeOf(x api.Inst) shape {
	switch {
	case x.Op <= api.OpExtract:
		return ofImmediates(x)
	case x.Op <= api.OpBr:
		return ofBranches(x)
	case x.Op <= api.OpSys:
		return ofSystem(x)
	case x.Op <= api.OpEx:
		return ofLoads(x)
	}
	return ofRegisters(x)
}

// ofImmediates are the classes that reckon with numbers.
func ofImmediates(x api.Inst) shape {
	switch x.Op {
	case api.OpAdr:
		return shape{bit(x.X), num(x.A, 2), fix("10000"), num(x.A>>2, 19), reg(x.Rd)}
	case api.OpAddImm:
		return shape{bit(x.X), num(x.B, 1), bit(x.S), fix("100010"), num(x.C, 1), num(x.A, 12), reg(x.Rn), reg(x.Rd)}
	case api.OpLogImm:
		return shape{bit(x.X), num(x.B, 2), fix("100100"), pattern(x), reg(x.Rn), reg(x.Rd)}
	case api.OpMovWide:
		return shape{bit(x.X), num(x.B, 2), fix("100101"), num(x.C, 2), num(x.A, 16), reg(x.Rd)}
	case api.OpBitfield:
		return shape{bit(x.X), num(x.B, 2), fix("100110"), bit(x.X), num(x.A, 6), num(x.C, 6), reg(x.Rn), reg(x.Rd)}
	case api.OpExtract:
		return shape{bit(x.X), fix("00100111"), bit(x.X), fix("0"), reg(x.Rm), num(x.A, 6), reg(x.Rn), reg(x.Rd)}
	}
	return shape{}
}

// ofBranches are the classes that go elsewhere.
func ofBranches(x api.Inst) shape {
	switch x.Op {
	case api.OpBCond:
		return shape{fix("01010100"), num(x.A, 19), fix("0"), num(x.B, 4)}
	case api.OpB:
		return shape{bit(x.S), fix("00101"), num(x.A, 26)}
	case api.OpCb:
		return shape{bit(x.X), fix("011010"), num(x.B, 1), num(x.A, 19), reg(x.Rd)}
	case api.OpTb:
		return shape{num(x.C>>5, 1), fix("011011"), num(x.B, 1), num(x.C, 5), num(x.A, 14), reg(x.Rd)}
	case api.OpBr:
		return shape{fix("1101011"), num(x.B, 4), fix("11111000000"), regIf(x.B != 4, x.Rn), fix("00000")}
	}
	return shape{}
}

// ofSystem are the classes of exceptions, of hints and of the system.
func ofSystem(x api.Inst) shape {
	switch x.Op {
	case api.OpExc:
		opc, ll := exception(x.B)
		return shape{fix("11010100"), num(opc, 3), num(x.A, 16), fix("000"), num(ll, 2)}
	case api.OpHint:
		return shape{fix("11010101000000110010"), num(x.A, 7), fix("11111")}
	case api.OpBar:
		return shape{fix("11010101000000110011"), num(x.A, 4), num(x.B, 3), fix("11111")}
	case api.OpSysReg:
		return shape{fix("1101010100"), num(x.B, 1), fix("1"), num(x.A, 15), reg(x.Rd)}
	case api.OpMsrImm:
		op1, op2 := stateField(x.B)
		return shape{fix("1101010100000"), num(op1, 3), fix("0100"), num(x.A, 4), num(op2, 3), fix("11111")}
	case api.OpSys:
		return shape{fix("1101010100"), num(x.B, 1), fix("01"), num(x.A, 14), reg(x.Rd)}
	}
	return shape{}
}

// ofLoads are the classes that load and store.
func ofLoads(x api.Inst) shape {
	switch x.Op {
	case api.OpLdLit:
		return shape{num(x.B, 2), fix("011000"), num(x.A, 19), reg(x.Rd)}
	case api.OpPair:
		return shape{num(x.B, 2), fix("1010"), num(x.C, 3), bit(x.S), num(x.A, 7), reg(x.Ra), reg(x.Rn), reg(x.Rd)}
	case api.OpLdImm:
		return shape{num(x.B, 2), fix("111001"), num(x.C, 2), num(x.A, 12), reg(x.Rn), reg(x.Rd)}
	case api.OpLdIdx:
		return shape{num(x.B, 2), fix("111000"), num(x.C, 2), fix("0"), num(x.A, 9), num(int64(x.Ra), 2), reg(x.Rn), reg(x.Rd)}
	case api.OpLdReg:
		return shape{num(x.B, 2), fix("111000"), num(x.C, 2), fix("1"), reg(x.Rm), num(x.A, 3), bit(x.S), fix("10"), reg(x.Rn), reg(x.Rd)}
	case api.OpEx:
		pair, ordered := x.A == 1, x.A == 2
		status := regIf(!x.S && !ordered, x.Rm)
		return shape{num(x.B, 2), fix("001000"), bit(ordered), bit(x.S), bit(pair), status, bit(x.X), regIf(pair, x.Ra), reg(x.Rn), reg(x.Rd)}
	}
	return shape{}
}

// ofRegisters are the classes that reckon with registers alone.
func ofRegisters(x api.Inst) shape {
	switch x.Op {
	case api.OpLogReg:
		return shape{bit(x.X), num(x.B, 2), fix("01010"), num(x.C, 2), bit(x.S), reg(x.Rm), num(x.A, 6), reg(x.Rn), reg(x.Rd)}
	case api.OpAddReg:
		return shape{bit(x.X), num(x.B, 1), bit(x.S), fix("01011"), num(x.C, 2), fix("0"), reg(x.Rm), num(x.A, 6), reg(x.Rn), reg(x.Rd)}
	case api.OpAddExt:
		return shape{bit(x.X), num(x.B, 1), bit(x.S), fix("01011001"), reg(x.Rm), num(x.C, 3), num(x.A, 3), reg(x.Rn), reg(x.Rd)}
	case api.OpAdc:
		return shape{bit(x.X), num(x.B, 1), bit(x.S), fix("11010000"), reg(x.Rm), fix("000000"), reg(x.Rn), reg(x.Rd)}
	case api.OpCcmp:
		return shape{bit(x.X), num(x.B, 1), fix("111010010"), reg(x.Rm), num(x.C, 4), bit(x.S), fix("0"), reg(x.Rn), fix("0"), num(x.A, 4)}
	case api.OpCsel:
		return shape{bit(x.X), num(x.B>>1, 1), fix("011010100"), reg(x.Rm), num(x.A, 4), fix("0"), num(x.B, 1), reg(x.Rn), reg(x.Rd)}
	case api.OpDp1:
		return shape{bit(x.X), fix("1011010110"), fix("00000"), num(x.B, 6), reg(x.Rn), reg(x.Rd)}
	case api.OpDp2:
		return shape{bit(x.X), fix("0011010110"), reg(x.Rm), num(x.B, 6), reg(x.Rn), reg(x.Rd)}
	case api.OpDp3:
		op31, o0 := product(x.B)
		sums := x.B != 4 && x.B != 7
		return shape{bit(x.X), fix("0011011"), num(op31, 3), reg(x.Rm), num(o0, 1), regIf(sums, x.Ra), reg(x.Rn), reg(x.Rd)}
	}
	return shape{}
}

// pattern is N, immr and imms of a logical immediate: zeros, if it is none.
func pattern(x api.Inst) part {
	width := 32
	if x.X {
		width = 64
	}
	field, _ := logimm.Field(uint64(x.A), width)
	return num(int64(field), api.LogBits)
}

// exception is opc and LL of OpExc.
func exception(b int64) (int64, int64) {
	switch b {
	case 0, 1, 2: // svc, hvc, smc
		return 0b000, b + 1
	case 3: // brk
		return 0b001, 0b00
	case 4: // hlt
		return 0b010, 0b00
	}
	return 0b101, b - 4
}

// stateField is op1 and op2 of OpMsrImm.
func stateField(b int64) (int64, int64) {
	switch b {
	case 0: // spsel
		return 0b000, 0b101
	case 1: // daifset
		return 0b011, 0b110
	case 2: // daifclr
		return 0b011, 0b111
	case 3: // pan
		return 0b000, 0b100
	case 4: // uao
		return 0b000, 0b011
	}
	return 0b011, 0b010
}

// product is op31 and o0 of OpDp3.
func product(b int64) (int64, int64) {
	switch b {
	case 4: // smulh
		return 0b010, 0
	case 5, 6: // umaddl, umsubl
		return 0b101, b - 5
	case 7: // umulh
		return 0b110, 0
	}
	return b >> 1, b & 1
}
