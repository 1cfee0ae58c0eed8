package match

import (
	"slices"

	"cooper/alias"
	"cooper/api"
	"cooper/inst"
)

// noName stands in a list for a number that has none: no instruction is called so.
const noName = "-"

const (
	endReg  = 31 // zero, or the stack's pointer
	linkReg = 30 // where ret goes back, if nothing is said

	shortBits = 32
	longBits  = 64
	pieceBits = 16 // of what a wide move moves
)

// misfit is with what is bailed out where a line fits nowhere.
type misfit struct{ wrong api.Errno }

// taker makes an instruction of a line. What it takes it does not hold against the line's limits: whether the line is the instruction's is asked when all is taken.
type taker struct {
	line  api.Line
	which int64 // of the names that were asked for last
	x     api.Inst
}

// is tells whether the line's name is one of these.
func (t *taker) is(names ...string) bool {
	t.which = int64(slices.Index(names, t.line.Name))
	return t.which >= 0
}

// odd tells whether it is the second of two names, or of each two.
func (t *taker) odd() bool { return t.which%2 != 0 }

// begin is the instruction as far as the name tells it.
func (t *taker) begin(x api.Inst) *taker {
	t.x = x
	return t
}

// take takes the operands, one by each.
func (t *taker) take(each ...func(api.Oper)) {
	if len(each) != len(t.line.Opers) {
		panic(misfit{api.ErrMatch})
	}
	for i, one := range each {
		one(t.line.Opers[i])
	}
}

// takeAny takes the operands, if there are any.
func (t *taker) takeAny(each ...func(api.Oper)) {
	if len(t.line.Opers) > 0 {
		t.take(each...)
	}
}

// ends tells whether the last operand is of a kind.
func (t *taker) ends(kind int) bool {
	n := len(t.line.Opers)
	return n > 0 && t.line.Opers[n-1].Kind == kind
}

// hasStack tells whether an operand is the stack's pointer.
func (t *taker) hasStack() bool {
	return slices.ContainsFunc(t.line.Opers, func(o api.Oper) bool { return o.R.SP })
}

// need goes on with operands of a kind alone.
func need(o api.Oper, kind int) {
	if o.Kind != kind {
		panic(misfit{api.ErrMatch})
	}
}

func register(o api.Oper) int {
	need(o, api.OrReg)
	return o.R.N
}

func number(o api.Oper) int64 {
	need(o, api.OrNum)
	return o.V.Add
}

// coded is the number of an operand that has a name, or only the number.
func coded(o api.Oper, kind int) int64 {
	if o.Kind == api.OrNum {
		return o.V.Add
	}
	need(o, kind)
	return o.N
}

func (t *taker) rd(o api.Oper) { t.x.Rd = register(o) }
func (t *taker) rn(o api.Oper) { t.x.Rn = register(o) }
func (t *taker) rm(o api.Oper) { t.x.Rm = register(o) }
func (t *taker) ra(o api.Oper) { t.x.Ra = register(o) }

// Of these registers the width is the instruction's.
func (t *taker) wideD(o api.Oper) { t.rd(o); t.x.X = o.R.X }
func (t *taker) wideN(o api.Oper) { t.rn(o); t.x.X = o.R.X }
func (t *taker) wideM(o api.Oper) { t.rm(o); t.x.X = o.R.X }

// bothNM takes a register that is both sources.
func (t *taker) bothNM(o api.Oper) { t.rn(o); t.rm(o) }

// width is how many bits the registers have.
func (t *taker) width() int64 {
	if t.x.X {
		return longBits
	}
	return shortBits
}

func (t *taker) numA(o api.Oper) { t.x.A = number(o) }
func (t *taker) numC(o api.Oper) { t.x.C = number(o) }

// sumA takes a number that is shifted perhaps, as sums have it.
func (t *taker) sumA(o api.Oper) {
	t.numA(o)
	if o.Mod != api.ModNone {
		t.x.C = 1
	}
}

// wideA takes a number that is shifted perhaps, as wide moves have it.
func (t *taker) wideA(o api.Oper) {
	t.numA(o)
	t.x.C = int64(o.Amt / pieceBits)
}

// lowest takes the lowest bit of a field that is moved up.
func (t *taker) lowest(o api.Oper) { t.x.A = t.width() - number(o) }

// many takes how many bits there are from bit 0 on.
func (t *taker) many(o api.Oper) { t.x.C = number(o) - 1 }

// manyFromA takes how many bits there are from bit A on.
func (t *taker) manyFromA(o api.Oper) { t.x.C = t.x.A + number(o) - 1 }

// shiftedM takes a register that is shifted perhaps.
func (t *taker) shiftedM(o api.Oper) {
	t.rm(o)
	if o.Mod != api.ModNone {
		t.x.A, t.x.C = int64(o.Amt), int64(o.Mod-api.ModLsl)
	}
}

// extendedM takes a register that is extended: if it is not said how, by nothing.
func (t *taker) extendedM(o api.Oper) {
	t.rm(o)
	t.x.A = int64(o.Amt)
	switch {
	case o.Mod >= api.ModUxtb:
		t.x.C = int64(o.Mod - api.ModUxtb)
	case t.x.X:
		t.x.C = api.ModUxtx - api.ModUxtb
	default:
		t.x.C = api.ModUxtw - api.ModUxtb
	}
}

// addend takes what is added: it tells the class.
func (t *taker) addend(o api.Oper) {
	switch {
	case o.Kind == api.OrNum:
		t.x.Op = api.OpAddImm
		t.sumA(o)
	case o.Mod >= api.ModUxtb, t.hasStack():
		t.x.Op = api.OpAddExt
		t.extendedM(o)
	default:
		t.x.Op = api.OpAddReg
		t.shiftedM(o)
	}
}

// mask takes the second source of a logical operation: it tells the class.
func (t *taker) mask(o api.Oper) {
	if o.Kind == api.OrNum {
		t.x.Op = api.OpLogImm
		t.numA(o)
		return
	}
	t.x.Op = api.OpLogReg
	t.shiftedM(o)
}

// moved takes what mov moves: it tells the class.
func (t *taker) moved(o api.Oper) {
	switch {
	case o.Kind == api.OrNum:
		x, none := alias.Move(t.line.Opers[0].R, uint64(o.V.Add))
		if none != api.OK {
			panic(misfit{api.ErrMatch})
		}
		t.x = x
	case t.hasStack():
		t.x.Op = api.OpAddImm
		t.rn(o)
	default:
		t.x.Op, t.x.B, t.x.Rn = api.OpLogReg, 1, endReg
		t.rm(o)
	}
}

// shift takes by how much lsl, lsr, asr or ror shift: it tells the class.
func (t *taker) shift(o api.Oper) {
	last := t.width() - 1
	switch {
	case o.Kind != api.OrNum:
		t.x.Op, t.x.B = api.OpDp2, firstShift+t.which
		t.rm(o)
		return
	case t.line.Name == "lsl":
		t.x.Op, t.x.B = api.OpBitfield, 2
		t.lowest(o)
		t.x.C = t.x.A - 1
		return
	case t.line.Name == "lsr":
		t.x.Op, t.x.B, t.x.C = api.OpBitfield, 2, last
	case t.line.Name == "asr":
		t.x.Op, t.x.C = api.OpBitfield, last
	default:
		t.x.Op, t.x.Rm = api.OpExtract, t.x.Rn
	}
	t.numA(o)
}

// compared takes the second source of a comparison: a register, or a number in its place.
func (t *taker) compared(o api.Oper) {
	if o.Kind == api.OrNum {
		t.x.S, t.x.Rm = true, int(number(o))
		return
	}
	t.rm(o)
}

// far takes a distance.
func (t *taker) far(o api.Oper) {
	x, wrong := inst.Put(t.x, number(o))
	if wrong != api.OK {
		panic(misfit{api.ErrMatch})
	}
	t.x = x
}

func condition(o api.Oper) int64 {
	need(o, api.OrCond)
	return o.N
}

func (t *taker) condA(o api.Oper)     { t.x.A = condition(o) }
func (t *taker) condC(o api.Oper)     { t.x.C = condition(o) }
func (t *taker) otherCond(o api.Oper) { t.x.A = alias.Invert(condition(o)) }

func (t *taker) barrier(o api.Oper) { t.x.A = coded(o, api.OrBar) }
func (t *taker) fetch(o api.Oper)   { t.x.Rd = int(coded(o, api.OrPrf)) }

func (t *taker) systemA(o api.Oper) {
	need(o, api.OrSys)
	t.x.A = o.N
}

// field takes a field of msr: the one that a system register has the name of stands as that.
func (t *taker) field(o api.Oper) {
	if o.Kind != api.OrSys {
		need(o, api.OrFld)
		t.x.B = o.N
	}
}

// Parts of A of OpSys.
func (t *taker) op1(o api.Oper) { t.x.A += number(o) << 11 }
func (t *taker) crn(o api.Oper) { t.x.A += number(o) << 7 }
func (t *taker) crm(o api.Oper) { t.x.A += number(o) << 3 }
func (t *taker) op2(o api.Oper) { t.x.A += number(o) }
