package alias

import (
	"math"

	"cooper/api"
	"cooper/inst"
	"cooper/names"
)

const (
	pieceBits = 16 // of what a wide move moves
	pieceMost = 1<<pieceBits - 1
)

// Move is the instruction that moves a number into a register.
func Move(rd api.Reg, v uint64) (api.Inst, api.Errno) {
	if _, e := names.RegName(rd); e != api.OK || !rd.X && v > math.MaxUint32 {
		return api.Inst{}, api.ErrArg
	}
	if !rd.SP {
		if x, ok := moveWide(rd, v); ok {
			return x, api.OK
		}
	}
	// Of a logical immediate the register 31 is the stack's pointer: zero cannot be reached so.
	orr := api.Inst{Op: api.OpLogImm, X: rd.X, Rd: rd.N, Rn: endReg, A: int64(v), B: 1}
	if rd.N == endReg && !rd.SP || inst.Check(orr) != api.OK {
		return api.Inst{}, api.ErrMove
	}
	return orr, api.OK
}

// moveWide is movz of a number, or else movn, if there is one.
func moveWide(rd api.Reg, v uint64) (api.Inst, bool) {
	x := api.Inst{Op: api.OpMovWide, X: rd.X, Rd: rd.N}
	var ok bool
	if x.A, x.C, ok = piece(v); ok {
		x.B = 2
		return x, true
	}
	x.A, x.C, ok = piece(v ^ ones(rd.X))
	return x, ok
}

// piece is a number as 16 bits and how many times they are shifted by 16, as few as can be.
func piece(v uint64) (int64, int64, bool) {
	for c := int64(0); c < 4; c++ {
		if at := c * pieceBits; v&^(pieceMost<<at) == 0 {
			return int64(v >> at), c, true
		}
	}
	return 0, 0, false
}

// ones is all ones, of 64 bits or of 32.
func ones(long bool) uint64 {
	if long {
		return math.MaxUint64
	}
	return math.MaxUint32
}
