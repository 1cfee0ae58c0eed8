package alias

import (
	"cooper/api"
	"cooper/bits"
	"cooper/inst"
)

const (
	shortBits = 32
	longBits  = 64

	endReg  = 31 // zero, or the stack's pointer
	linkReg = 30 // where ret goes back, if nothing is said

	unshifted = -1 // of memory of which no amount is told
)

// form is an instruction that Check takes, whose methods tell operands.
type form api.Inst

// line is a name and the operands that are told.
func line(name string, tell ...func() api.Oper) api.Line {
	l := api.Line{Name: name}
	for _, oper := range tell {
		l.Opers = append(l.Opers, oper())
	}
	return l
}

// wide is x with registers of 64 bits, or of 32.
func (x form) wide(is bool) form {
	x.X = is
	return x
}

// width is how many bits the registers have.
func (x form) width() int64 {
	if x.X {
		return longBits
	}
	return shortBits
}

// register is a register of which 31 is zero.
func (x form) register(n int) api.Oper {
	return api.Oper{Kind: api.OrReg, R: api.Reg{N: n, X: x.X}}
}

// stack is a register of which 31 is the stack's pointer.
func (x form) stack(n int) api.Oper {
	return api.Oper{Kind: api.OrReg, R: api.Reg{N: n, X: x.X, SP: n == endReg}}
}

func (x form) rd() api.Oper { return x.register(x.Rd) }
func (x form) rn() api.Oper { return x.register(x.Rn) }
func (x form) rm() api.Oper { return x.register(x.Rm) }
func (x form) ra() api.Oper { return x.register(x.Ra) }

func (x form) stackD() api.Oper { return x.stack(x.Rd) }
func (x form) stackN() api.Oper { return x.stack(x.Rn) }

// sumD is where a sum goes: one that sets flags has no stack's pointer.
func (x form) sumD() api.Oper {
	if x.S {
		return x.rd()
	}
	return x.stackD()
}

// maskD is where a logical operation with a number goes: ands has no stack's pointer.
func (x form) maskD() api.Oper {
	if x.B == 3 {
		return x.rd()
	}
	return x.stackD()
}

// shiftedM is Rm, shifted by A as C says.
func (x form) shiftedM() api.Oper {
	m := x.rm()
	if x.A != 0 || x.C != 0 {
		m.Mod, m.Amt = api.ModLsl+int(x.C), int(x.A)
	}
	return m
}

// extendedM is Rm, extended as C says, and shifted by A.
func (x form) extendedM() api.Oper {
	m := x.wide(x.C == 3 || x.C == 7).rm()
	m.Mod, m.Amt = api.ModUxtb+int(x.C), int(x.A)
	return m
}

// besideStackM is extendedM, but of an extension that changes nothing, beside the stack's pointer, no more than the shift.
func (x form) besideStackM() api.Oper {
	m := x.extendedM()
	whole := int64(2)
	if x.X {
		whole = 3
	}
	if x.C != whole || x.Rn != endReg && (x.Rd != endReg || x.S) {
		return m
	}
	m.Mod = api.ModLsl
	if x.A == 0 {
		m.Mod = api.ModNone
	}
	return m
}

func number(v int64) api.Oper { return api.Oper{Kind: api.OrNum, V: api.Value{Add: v}} }

func (x form) numA() api.Oper  { return number(x.A) }
func (x form) numC() api.Oper  { return number(x.C) }
func (x form) numRm() api.Oper { return number(int64(x.Rm)) }

// sumA is A, shifted by 12 with C.
func (x form) sumA() api.Oper {
	a := x.numA()
	if x.C != 0 {
		a.Mod, a.Amt = api.ModLsl, 12
	}
	return a
}

// wideA is A, shifted by 16 as many times as C says.
func (x form) wideA() api.Oper {
	a := x.numA()
	if x.C != 0 {
		a.Mod, a.Amt = api.ModLsl, pieceBits*int(x.C)
	}
	return a
}

// moved is the number that a wide move makes.
func (x form) moved() api.Oper {
	v := uint64(x.A) << (pieceBits * x.C)
	if x.B == 0 {
		v ^= ones(x.X)
	}
	return number(int64(v))
}

// lowest is the lowest bit of a field that is moved up.
func (x form) lowest() api.Oper { return number(x.width() - x.A) }

// many is how many bits there are from bit 0 on.
func (x form) many() api.Oper { return number(x.C + 1) }

// manyFromA is how many bits there are from bit A on.
func (x form) manyFromA() api.Oper { return number(x.C - x.A + 1) }

// systemPart is some of A's bits of OpSys.
func (x form) systemPart(low, width int) api.Oper {
	v, _ := bits.Get(uint32(x.A), api.Field{Low: low, Width: width})
	return number(int64(v))
}

func (x form) op1() api.Oper { return x.systemPart(11, 3) }
func (x form) crn() api.Oper { return x.systemPart(7, 4) }
func (x form) crm() api.Oper { return x.systemPart(3, 4) }
func (x form) op2() api.Oper { return x.systemPart(0, 3) }

// far is the place that the instruction's distance tells.
func (x form) far() api.Oper {
	v, _ := inst.Far(api.Inst(x))
	return api.Oper{Kind: api.OrTo, V: api.Value{Add: v}}
}

func (x form) condA() api.Oper     { return api.Oper{Kind: api.OrCond, N: x.A} }
func (x form) condC() api.Oper     { return api.Oper{Kind: api.OrCond, N: x.C} }
func (x form) otherCond() api.Oper { return api.Oper{Kind: api.OrCond, N: Invert(x.A)} }

func (x form) barrier() api.Oper { return api.Oper{Kind: api.OrBar, N: x.A} }
func (x form) system() api.Oper  { return api.Oper{Kind: api.OrSys, N: x.A} }
func (x form) field() api.Oper   { return api.Oper{Kind: api.OrFld, N: x.B} }
func (x form) fetch() api.Oper   { return api.Oper{Kind: api.OrPrf, N: int64(x.Rd)} }

// base is memory from Rn on.
func (x form) base() api.Oper {
	return api.Oper{Kind: api.OrMem, R: x.wide(true).stackN().R}
}

// memory is memory from Rn on, at an offset, in a mode.
func (x form) memory(mode int, offset int64) api.Oper {
	m := x.base()
	m.Mode, m.V.Add = mode, offset
	return m
}

// pairMemory is the memory of OpPair.
func (x form) pairMemory() api.Oper {
	offset := 4 * x.A
	if x.B == 2 {
		offset = 8 * x.A
	}
	switch x.C {
	case 1:
		return x.memory(api.MmPost, offset)
	case 3:
		return x.memory(api.MmPre, offset)
	}
	return x.memory(api.MmOff, offset)
}

// unitMemory is the memory of OpLdImm.
func (x form) unitMemory() api.Oper { return x.memory(api.MmOff, x.A<<x.B) }

// indexMemory is the memory of OpLdIdx.
func (x form) indexMemory() api.Oper {
	switch x.Ra {
	case 1:
		return x.memory(api.MmPost, x.A)
	case 3:
		return x.memory(api.MmPre, x.A)
	}
	return x.memory(api.MmOff, x.A)
}

// registerMemory is the memory of OpLdReg.
func (x form) registerMemory() api.Oper {
	m := x.base()
	m.Mode, m.Amt = api.MmReg, unshifted
	m.M = x.wide(x.A%2 != 0).rm().R
	if x.S {
		m.Amt = int(x.B)
	}
	switch x.A {
	case 2:
		m.Mod = api.ModUxtw
	case 3:
		m.Mod = api.ModLsl
	case 6:
		m.Mod = api.ModSxtw
	case 7:
		m.Mod = api.ModSxtx
	}
	return m
}
