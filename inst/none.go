package inst

import (
	"cooper/api"
	"cooper/logimm"
)

const (
	shortBits = 32
	longBits  = 64
	endReg    = 31 // zero, or the stack's pointer
)

// noSuch tells whether the Arm ARM leaves an instruction out though each of its fields is within its limits.
func noSuch(x api.Inst) bool {
	switch x.Op {
	case api.OpLogImm:
		return noPattern(x)
	case api.OpMovWide:
		return x.B == 1 || !x.X && x.C > 1
	case api.OpBitfield:
		if tooWide(x.X, x.C) {
			return true
		}
		fallthrough
	case api.OpExtract, api.OpLogReg, api.OpAddReg:
		return tooWide(x.X, x.A)
	case api.OpBr:
		if x.B == 4 && x.Rn != 0 {
			return true
		}
		fallthrough
	case api.OpBar:
		return x.B == 3
	case api.OpPair:
		return noPair(x)
	case api.OpLdReg:
		if x.A == 4 || x.A == 5 {
			return true
		}
		fallthrough
	case api.OpLdImm:
		return noTransfer(x)
	case api.OpLdIdx:
		return noTransfer(x) || noIndex(x)
	case api.OpEx:
		return noExclusive(x) || !x.S && x.A < 2 && noStatus(x)
	case api.OpDp1:
		return x.B == 3 && !x.X
	case api.OpDp2:
		return noSecond(x)
	case api.OpDp3:
		return x.B > 1 && !x.X || (x.B == 4 || x.B == 7) && x.Ra != 0
	}
	return false
}

// tooWide tells whether a number of a bit lies beyond the registers.
func tooWide(long bool, bit int64) bool { return !long && bit >= shortBits }

// noPattern tells whether A is no logical immediate.
func noPattern(x api.Inst) bool {
	width := shortBits
	if x.X {
		width = longBits
	}
	// A number below 0 has bits above 32: of that width it is none.
	_, e := logimm.Field(uint64(x.A), width)
	return e != api.OK
}

// noPair tells whether a pair may not be.
func noPair(x api.Inst) bool {
	if x.B == 1 && (!x.S || x.C == 0) || x.S && x.Rd == x.Ra {
		return true
	}
	changed := x.C == 1 || x.C == 3
	return changed && x.Rn != endReg && (x.Rn == x.Rd || x.Rn == x.Ra)
}

// noTransfer tells whether there is no load of the size with this sign.
func noTransfer(x api.Inst) bool { return x.C == 3 && x.B >= 2 }

// noIndex tells whether there is none of this mode.
func noIndex(x api.Inst) bool {
	if x.C == 2 && x.B == 3 {
		return x.Ra != 0
	}
	changed := x.Ra == 1 || x.Ra == 3
	return changed && x.Rn != endReg && x.Rn == x.Rd
}

// noExclusive tells whether fields of an exclusive or ordered one may not stand beside each other.
func noExclusive(x api.Inst) bool {
	switch x.A {
	case 1:
		return x.B < 2 || x.S && (x.Rm != 0 || x.Rd == x.Ra)
	case 2:
		if !x.X || x.Rm != 0 {
			return true
		}
		fallthrough
	default:
		return x.Ra != 0 || x.S && x.Rm != 0
	}
}

// noStatus tells whether a store's status would go where the store takes something from.
func noStatus(x api.Inst) bool {
	return x.Rm == x.Rd || x.Rm == x.Rn && x.Rm != endReg || x.A == 1 && x.Rm == x.Ra
}

// noSecond tells whether there is none of two sources by that number, of that width.
func noSecond(x api.Inst) bool {
	switch x.B {
	case 4, 5, 6, 7, 12, 13, 14, 15:
		return true
	case 16, 17, 18, 20, 21, 22:
		return x.X
	case 19, 23:
		return !x.X
	}
	return false
}
