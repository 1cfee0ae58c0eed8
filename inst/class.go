package inst

import "cooper/api"

const (
	wordBytes = 4
	pageBytes = 4096
)

// span is the least and the greatest number of a field.
type span struct{ least, most int64 }

// class is how far each field goes, by the fields' numbers: zeros of one that the class has not, as every other one goes above 0.
type class [api.FdC + 1]span

// one is how far X and S go, reg how far registers.
var (
	one = span{0, 1}
	reg = span{0, 31}
)

// signed is how far a number with a sign goes.
func signed(bits int) span {
	least := int64(-1) << (bits - 1)
	return span{least, ^least}
}

// classOf is the class of a number: without any field, if there is none.
func classOf(op int) class {
	switch {
	case op <= api.OpExtract:
		return ofImmediates(op)
	case op <= api.OpSys:
		return ofBranches(op)
	case op <= api.OpEx:
		return ofLoads(op)
	}
	return ofRegisters(op)
}

// ofImmediates are the classes that reckon with numbers.
func ofImmediates(op int) class {
	switch op {
	case api.OpAdr:
		return class{api.FdX: one, api.FdRd: reg, api.FdA: signed(21)}
	case api.OpAddImm:
		return class{api.FdX: one, api.FdS: one, api.FdRd: reg, api.FdRn: reg, api.FdA: {0, 4095}, api.FdB: {0, 1}, api.FdC: {0, 1}}
	case api.OpLogImm:
		return class{api.FdX: one, api.FdRd: reg, api.FdRn: reg, api.FdA: signed(64), api.FdB: {0, 3}}
	case api.OpMovWide:
		return class{api.FdX: one, api.FdRd: reg, api.FdA: {0, 65535}, api.FdB: {0, 3}, api.FdC: {0, 3}}
	case api.OpBitfield:
		return class{api.FdX: one, api.FdRd: reg, api.FdRn: reg, api.FdA: {0, 63}, api.FdB: {0, 2}, api.FdC: {0, 63}}
	case api.OpExtract:
		return class{api.FdX: one, api.FdRd: reg, api.FdRn: reg, api.FdRm: reg, api.FdA: {0, 63}}
	}
	return class{}
}

// ofBranches are the classes that go elsewhere, and those of the system.
func ofBranches(op int) class {
	switch op {
	case api.OpBCond:
		return class{api.FdA: signed(19), api.FdB: {0, 15}}
	case api.OpB:
		return class{api.FdS: one, api.FdA: signed(26)}
	case api.OpCb:
		return class{api.FdX: one, api.FdRd: reg, api.FdA: signed(19), api.FdB: {0, 1}}
	case api.OpTb:
		return class{api.FdRd: reg, api.FdA: signed(14), api.FdB: {0, 1}, api.FdC: {0, 63}}
	case api.OpBr:
		return class{api.FdRn: reg, api.FdB: {0, 4}}
	case api.OpExc:
		return class{api.FdA: {0, 65535}, api.FdB: {0, 7}}
	case api.OpHint:
		return class{api.FdA: {0, 127}}
	case api.OpBar:
		return class{api.FdA: {0, 15}, api.FdB: {2, 6}}
	case api.OpSysReg:
		return class{api.FdRd: reg, api.FdA: {0, 32767}, api.FdB: {0, 1}}
	case api.OpMsrImm:
		return class{api.FdA: {0, 15}, api.FdB: {0, 5}}
	case api.OpSys:
		return class{api.FdRd: reg, api.FdA: {0, 16383}, api.FdB: {0, 1}}
	}
	return class{}
}

// ofLoads are the classes that load and store.
func ofLoads(op int) class {
	switch op {
	case api.OpLdLit:
		return class{api.FdRd: reg, api.FdA: signed(19), api.FdB: {0, 3}}
	case api.OpPair:
		return class{api.FdS: one, api.FdRd: reg, api.FdRn: reg, api.FdRa: reg, api.FdA: signed(7), api.FdB: {0, 2}, api.FdC: {0, 3}}
	case api.OpLdImm:
		return class{api.FdRd: reg, api.FdRn: reg, api.FdA: {0, 4095}, api.FdB: {0, 3}, api.FdC: {0, 3}}
	case api.OpLdIdx:
		return class{api.FdRd: reg, api.FdRn: reg, api.FdRa: {0, 3}, api.FdA: signed(9), api.FdB: {0, 3}, api.FdC: {0, 3}}
	case api.OpLdReg:
		return class{api.FdS: one, api.FdRd: reg, api.FdRn: reg, api.FdRm: reg, api.FdA: {2, 7}, api.FdB: {0, 3}, api.FdC: {0, 3}}
	case api.OpEx:
		return class{api.FdX: one, api.FdS: one, api.FdRd: reg, api.FdRn: reg, api.FdRm: reg, api.FdRa: reg, api.FdA: {0, 2}, api.FdB: {0, 3}}
	}
	return class{}
}

// ofRegisters are the classes that reckon with registers alone.
func ofRegisters(op int) class {
	switch op {
	case api.OpLogReg:
		return class{api.FdX: one, api.FdS: one, api.FdRd: reg, api.FdRn: reg, api.FdRm: reg, api.FdA: {0, 63}, api.FdB: {0, 3}, api.FdC: {0, 3}}
	case api.OpAddReg:
		return class{api.FdX: one, api.FdS: one, api.FdRd: reg, api.FdRn: reg, api.FdRm: reg, api.FdA: {0, 63}, api.FdB: {0, 1}, api.FdC: {0, 2}}
	case api.OpAddExt:
		return class{api.FdX: one, api.FdS: one, api.FdRd: reg, api.FdRn: reg, api.FdRm: reg, api.FdA: {0, 4}, api.FdB: {0, 1}, api.FdC: {0, 7}}
	case api.OpAdc:
		return class{api.FdX: one, api.FdS: one, api.FdRd: reg, api.FdRn: reg, api.FdRm: reg, api.FdB: {0, 1}}
	case api.OpCcmp:
		return class{api.FdX: one, api.FdS: one, api.FdRn: reg, api.FdRm: reg, api.FdA: {0, 15}, api.FdB: {0, 1}, api.FdC: {0, 15}}
	case api.OpCsel:
		return class{api.FdX: one, api.FdRd: reg, api.FdRn: reg, api.FdRm: reg, api.FdA: {0, 15}, api.FdB: {0, 3}}
	case api.OpDp1:
		return class{api.FdX: one, api.FdRd: reg, api.FdRn: reg, api.FdB: {0, 5}}
	case api.OpDp2:
		return class{api.FdX: one, api.FdRd: reg, api.FdRn: reg, api.FdRm: reg, api.FdB: {2, 23}}
	case api.OpDp3:
		return class{api.FdX: one, api.FdRd: reg, api.FdRn: reg, api.FdRm: reg, api.FdRa: reg, api.FdB: {0, 7}}
	}
	return class{}
}
