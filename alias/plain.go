package alias

import (
	"cooper/api"
	"cooper/names"
)

// plain is an instruction as its class has it.
func (x form) plain() api.Line {
	switch {
	case x.Op <= api.OpExtract:
		return x.plainNumbers()
	case x.Op <= api.OpExc:
		return x.plainBranch()
	case x.Op <= api.OpSys:
		return x.plainSystem()
	case x.Op <= api.OpEx:
		return x.plainMemory()
	case x.Op <= api.OpCsel:
		return x.plainRegisters()
	}
	return x.plainSources()
}

// plainNumbers are the classes that reckon with numbers.
func (x form) plainNumbers() api.Line {
	switch x.Op {
	case api.OpAdr:
		return line(pick(addressNames, flag(x.X)), x.wide(true).rd, x.far)
	case api.OpAddImm:
		return line(pick(sumNames, withS(x.B, x.S)), x.sumD, x.stackN, x.sumA)
	case api.OpLogImm:
		return line(pick(logicNames, withS(x.B, false)), x.maskD, x.rn, x.numA)
	case api.OpMovWide:
		return line(pick(wideNames, x.B), x.rd, x.wideA)
	case api.OpBitfield:
		return line(pick(bitfieldNames, x.B), x.rd, x.rn, x.numA, x.numC)
	}
	return line(extractName, x.rd, x.rn, x.rm, x.numA)
}

// plainBranch are the classes that go elsewhere.
func (x form) plainBranch() api.Line {
	switch x.Op {
	case api.OpBCond:
		cond, _ := names.Name(api.KdCond, x.B)
		return line(condBranch+cond, x.far)
	case api.OpB:
		return line(pick(branchNames, flag(x.S)), x.far)
	case api.OpCb:
		return line(pick(zeroNames, x.B), x.rd, x.far)
	case api.OpTb:
		return line(pick(testNames, x.B), x.wide(x.C >= shortBits).rd, x.numC, x.far)
	case api.OpExc:
		return line(pick(exceptionNames, x.B), x.numA)
	}
	name := pick(jumpNames, x.B)
	if x.B == 4 {
		return line(name)
	}
	return line(name, x.wide(true).rn)
}

// plainSystem are the classes of hints, barriers and the system.
func (x form) plainSystem() api.Line {
	long := x.wide(true)
	switch x.Op {
	case api.OpHint:
		return line(hintName, x.numA)
	case api.OpBar:
		if x.B == 4 || x.B == 5 {
			return line(pick(barrierNames, x.B), x.barrier)
		}
		return line(pick(barrierNames, x.B), x.numA)
	case api.OpSysReg:
		if x.B == 0 {
			return line(pick(registerNames, x.B), x.system, long.rd)
		}
		return line(pick(registerNames, x.B), long.rd, x.system)
	case api.OpMsrImm:
		return line(pick(registerNames, 0), x.field, x.numA)
	}
	if x.B == 0 {
		return line(pick(systemNames, x.B), x.op1, x.crn, x.crm, x.op2, long.rd)
	}
	return line(pick(systemNames, x.B), long.rd, x.op1, x.crn, x.crm, x.op2)
}

// plainMemory are the classes that load and store.
func (x form) plainMemory() api.Line {
	switch x.Op {
	case api.OpLdLit:
		return x.plainLiteral()
	case api.OpPair:
		return x.plainPair()
	case api.OpEx:
		return x.plainExclusive()
	}
	name, _, long := Transfer(x.B, x.C)
	d := x.wide(long).rd
	if name == fetchName {
		d = x.fetch
	}
	switch x.Op {
	case api.OpLdImm:
		return line(name, d, x.unitMemory)
	case api.OpLdReg:
		return line(name, d, x.registerMemory)
	}
	switch x.Ra {
	case 0:
		name = unscaled(name)
	case 2:
		name = unprivileged(name)
	}
	return line(name, d, x.indexMemory)
}

func (x form) plainLiteral() api.Line {
	name := pick(literalNames, x.B)
	if name == fetchName {
		return line(name, x.fetch, x.far)
	}
	return line(name, x.wide(x.B != 0).rd, x.far)
}

func (x form) plainPair() api.Line {
	list := pairNames
	if x.C == 0 {
		list = passingNames
	}
	of := x.wide(x.B != 0)
	return line(pick(list, withS(x.B, x.S)), of.rd, of.ra, x.pairMemory)
}

func (x form) plainExclusive() api.Line {
	name := pick(exclusiveNames, 4*x.A+2*flag(x.S)+flag(x.X))
	if x.B < 2 {
		name += pick(sizeNames, x.B)
	}
	of, status := x.wide(x.B == 3), x.wide(false).rm
	switch {
	case x.A == 0 && !x.S:
		return line(name, status, of.rd, x.base)
	case x.A == 1 && !x.S:
		return line(name, status, of.rd, of.ra, x.base)
	case x.A == 1:
		return line(name, of.rd, of.ra, x.base)
	}
	return line(name, of.rd, x.base)
}

// plainRegisters are the classes that reckon with registers alone, and with conditions.
func (x form) plainRegisters() api.Line {
	switch x.Op {
	case api.OpLogReg:
		return line(pick(logicNames, withS(x.B, x.S)), x.rd, x.rn, x.shiftedM)
	case api.OpAddReg:
		return line(pick(sumNames, withS(x.B, x.S)), x.rd, x.rn, x.shiftedM)
	case api.OpAddExt:
		return line(pick(sumNames, withS(x.B, x.S)), x.sumD, x.stackN, x.extendedM)
	case api.OpAdc:
		return line(pick(carryNames, withS(x.B, x.S)), x.rd, x.rn, x.rm)
	case api.OpCcmp:
		if x.S {
			return line(pick(ifCompareNames, x.B), x.rn, x.numRm, x.numA, x.condC)
		}
		return line(pick(ifCompareNames, x.B), x.rn, x.rm, x.numA, x.condC)
	}
	return line(pick(selectNames, x.B), x.rd, x.rn, x.rm, x.condA)
}

// plainSources are the classes of one, two and three sources.
func (x form) plainSources() api.Line {
	long, short := x.wide(true), x.wide(false)
	switch x.Op {
	case api.OpDp1:
		if x.B == 2 && !x.X {
			return line(pick(oneNames, 3), x.rd, x.rn)
		}
		return line(pick(oneNames, x.B), x.rd, x.rn)
	case api.OpDp2:
		// A checksum is of 32 bits, whatever it is summed with.
		if x.B >= 16 {
			return line(pick(twoNames, x.B), short.rd, short.rn, x.rm)
		}
		return line(pick(twoNames, x.B), x.rd, x.rn, x.rm)
	}
	name := pick(threeNames, x.B)
	switch x.B {
	case 0, 1:
		return line(name, x.rd, x.rn, x.rm, x.ra)
	case 4, 7:
		return line(name, long.rd, long.rn, long.rm)
	}
	return line(name, long.rd, short.rn, short.rm, long.ra)
}
