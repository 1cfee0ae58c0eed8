package alias

import (
	"cooper/api"
	"cooper/names"
)

const defaultBar = 15 // of clrex and isb, if nothing is said

// preferred is an instruction in the form that the Arm ARM prefers: the plain one, if it prefers no other.
func (x form) preferred() api.Line {
	switch x.Op {
	case api.OpAddImm:
		return x.preferSumImm()
	case api.OpLogImm:
		return x.preferLogImm()
	case api.OpMovWide:
		return x.preferWide()
	case api.OpBitfield:
		return x.preferBitfield()
	case api.OpExtract:
		return x.preferExtract()
	case api.OpBr, api.OpExc, api.OpHint, api.OpBar, api.OpSys:
		return x.preferShort()
	case api.OpLogReg:
		return x.preferLogReg()
	case api.OpAddReg:
		return x.preferSumReg()
	case api.OpAddExt:
		return x.preferSumExt()
	case api.OpAdc:
		return x.preferCarry()
	case api.OpCsel:
		return x.preferSelect()
	case api.OpDp2:
		return x.preferTwo()
	case api.OpDp3:
		return x.preferThree()
	}
	return x.plain()
}

func (x form) preferSumImm() api.Line {
	switch {
	case x.B == 0 && x.A == 0 && x.C == 0 && !x.S && (x.Rd == endReg || x.Rn == endReg):
		return line(moveName, x.stackD, x.stackN)
	case x.S && x.Rd == endReg:
		return line(pick(compareNames, x.B), x.stackN, x.sumA)
	}
	return x.plain()
}

func (x form) preferLogImm() api.Line {
	switch {
	case x.B == 1 && x.Rn == endReg && !x.movesWide():
		return line(moveName, x.stackD, x.numA)
	case x.B == 3 && x.Rd == endReg:
		return line(tryName, x.rn, x.numA)
	}
	return x.plain()
}

// movesWide tells whether movz or movn moves A.
func (x form) movesWide() bool {
	move, _ := Move(api.Reg{N: x.Rd, X: x.X}, uint64(x.A))
	return move.Op == api.OpMovWide
}

func (x form) preferWide() api.Line {
	usual := x.A != 0 || x.C == 0
	switch {
	case x.B == 2 && usual:
		return line(moveName, x.rd, x.moved)
	case x.B == 0 && usual && (x.X || x.A != pieceMost):
		// What movn makes of 65,535 in 32 bits is movz's, too.
		return line(moveName, x.rd, x.moved)
	}
	return x.plain()
}

func (x form) preferBitfield() api.Line {
	last := x.width() - 1
	name, extends := x.extension()
	switch {
	case x.B == 0 && x.C == last:
		return line(pick(shiftNames, 2), x.rd, x.rn, x.numA)
	case x.B == 2 && x.C == last:
		return line(pick(shiftNames, 1), x.rd, x.rn, x.numA)
	case x.B == 2 && x.C+1 == x.A:
		return line(pick(shiftNames, 0), x.rd, x.rn, x.lowest)
	case extends:
		return line(name, x.rd, x.wide(false).rn)
	case x.C < x.A && x.B == 1 && x.Rn == endReg:
		return line(clearName, x.rd, x.lowest, x.many)
	case x.C < x.A:
		return line(pick(insertNames, x.B), x.rd, x.rn, x.lowest, x.many)
	}
	return line(pick(extractNames, x.B), x.rd, x.rn, x.numA, x.manyFromA)
}

// extension is the name of a bitfield that extends the lowest bits of a register, if it does.
func (x form) extension() (string, bool) {
	// What is extended without a sign to 64 bits has a name of 32 bits.
	if x.A != 0 || x.B == 1 || x.B == 2 && x.X {
		return "", false
	}
	switch x.C {
	case 7:
		return pick(byteNames, x.B), true
	case 15:
		return pick(halfNames, x.B), true
	case 31:
		return extendName, true
	}
	return "", false
}

func (x form) preferExtract() api.Line {
	if x.Rn == x.Rm {
		return line(pick(shiftNames, 3), x.rd, x.rn, x.numA)
	}
	return x.plain()
}

// preferShort is one of which something needs not be said.
func (x form) preferShort() api.Line {
	name := x.plain().Name
	switch x.Op {
	case api.OpBr:
		if x.B == 2 && x.Rn == linkReg {
			return line(name)
		}
	case api.OpExc:
		if x.B >= 5 && x.A == 0 {
			return line(name)
		}
	case api.OpHint:
		if hint, e := names.Name(api.KdHint, x.A); e == api.OK {
			return line(hint)
		}
	case api.OpBar:
		if (x.B == 2 || x.B == 6) && x.A == defaultBar {
			return line(name)
		}
	case api.OpSys:
		if x.B == 0 && x.Rd == endReg {
			return line(name, x.op1, x.crn, x.crm, x.op2)
		}
	}
	return x.plain()
}

func (x form) preferLogReg() api.Line {
	switch {
	case x.B == 1 && !x.S && x.Rn == endReg && x.A == 0 && x.C == 0:
		return line(moveName, x.rd, x.rm)
	case x.B == 1 && x.S && x.Rn == endReg:
		return line(notName, x.rd, x.shiftedM)
	case x.B == 3 && !x.S && x.Rd == endReg:
		return line(tryName, x.rn, x.shiftedM)
	}
	return x.plain()
}

func (x form) preferSumReg() api.Line {
	switch {
	case x.S && x.Rd == endReg:
		return line(pick(compareNames, x.B), x.rn, x.shiftedM)
	case x.B == 1 && x.Rn == endReg:
		return line(pick(negateNames, flag(x.S)), x.rd, x.shiftedM)
	}
	return x.plain()
}

func (x form) preferSumExt() api.Line {
	if x.S && x.Rd == endReg {
		return line(pick(compareNames, x.B), x.stackN, x.besideStackM)
	}
	return line(x.plain().Name, x.sumD, x.stackN, x.besideStackM)
}

func (x form) preferCarry() api.Line {
	if x.B == 1 && x.Rn == endReg {
		return line(pick(borrowNames, flag(x.S)), x.rd, x.rm)
	}
	return x.plain()
}

func (x form) preferSelect() api.Line {
	// al and nv hold always: no condition holds just if they do not.
	if x.A >= 14 || x.Rn != x.Rm {
		return x.plain()
	}
	switch {
	case (x.B == 1 || x.B == 2) && x.Rn == endReg:
		return line(pick(setNames, x.B), x.rd, x.otherCond)
	case x.B != 0:
		return line(pick(changeNames, x.B), x.rd, x.rn, x.otherCond)
	}
	return x.plain()
}

func (x form) preferTwo() api.Line {
	if x.B >= 8 && x.B <= 11 {
		return line(pick(shiftNames, x.B-8), x.rd, x.rn, x.rm)
	}
	return x.plain()
}

func (x form) preferThree() api.Line {
	long, short := x.wide(true), x.wide(false)
	switch {
	case x.Ra != endReg:
		return x.plain()
	case x.B < 2:
		return line(pick(productNames, x.B), x.rd, x.rn, x.rm)
	}
	return line(pick(productNames, x.B), long.rd, short.rn, short.rm)
}
