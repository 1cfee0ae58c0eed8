package oper

import (
	"cooper/api"
	"cooper/names"
)

const (
	endReg = 31 // zero, or the stack's pointer

	unshifted = -1 // of memory of which no amount is told
	mostShift = 63

	mostCond    = 15
	mostBarrier = 15
	mostFetch   = 31
	mostSystem  = 1<<15 - 1
	mostField   = 5

	noNames = 0 // no kind of names
)

// naming is a kind of operands that are told by a name, and the kind of these names.
type naming struct{ oper, names int }

// namings are all these kinds: a name counts as the first one's that has it.
var namings = [...]naming{
	{api.OrCond, api.KdCond},
	{api.OrBar, api.KdBar},
	{api.OrSys, api.KdSys},
	{api.OrPrf, api.KdPrf},
	{api.OrFld, api.KdField},
}

// nameKind is the kind of the names that tell a kind of operands.
func nameKind(oper int) int {
	for _, k := range namings {
		if k.oper == oper {
			return k.names
		}
	}
	return noNames
}

// ofName is the operand that a name alone tells, if it is no register's.
func ofName(s string) (api.Oper, bool) {
	for _, k := range namings {
		if n, none := names.Number(k.names, s); none == api.OK {
			return api.Oper{Kind: k.oper, N: n}, true
		}
	}
	return api.Oper{}, false
}

func number(n int64) api.Oper { return api.Oper{Kind: api.OrNum, V: api.Value{Add: n}} }

// isNumber tells whether a value is a number alone.
func isNumber(v api.Value) bool { return v.Plus == "" && v.Minus == "" }

// isBase tells whether an operand's text is a base between [ and ] alone.
func isBase(o api.Oper) bool { return o == api.Oper{Kind: api.OrMem, R: o.R} }

// used is an operand with nothing but what its form uses.
func used(o api.Oper) api.Oper {
	u := api.Oper{Kind: o.Kind}
	switch o.Kind {
	case api.OrReg:
		u.R, u.Mod, u.Amt = o.R, o.Mod, o.Amt
	case api.OrNum:
		u.V, u.Lo = o.V, o.Lo
		if !o.Lo {
			u.Mod, u.Amt = o.Mod, o.Amt
		}
	case api.OrTo:
		u.V = o.V
	case api.OrMem:
		return usedMemory(o)
	default:
		u.N = o.N
	}
	return u
}

func usedMemory(o api.Oper) api.Oper {
	u := api.Oper{Kind: o.Kind, R: o.R, Mode: o.Mode}
	switch o.Mode {
	case api.MmReg:
		u.M, u.Mod, u.Amt = o.M, o.Mod, o.Amt
	case api.MmOff:
		u.V, u.Lo = o.V, o.Lo
	default:
		u.V = o.V
	}
	return u
}

// fits tells whether the fields that a form uses are what it lets them be, but for values.
func fits(o api.Oper) bool {
	switch o.Kind {
	case api.OrReg:
		return isRegister(o.R) && isShift(o, api.ModSxtx)
	case api.OrNum:
		return isShift(o, api.ModLsl)
	case api.OrTo:
		return true
	case api.OrMem:
		return isBaseRegister(o.R) && fitsMode(o)
	case api.OrCond:
		return isFrom0(o.N, mostCond)
	case api.OrBar:
		return isFrom0(o.N, mostBarrier)
	case api.OrSys:
		return isFrom0(o.N, mostSystem)
	case api.OrPrf:
		return isFrom0(o.N, mostFetch)
	case api.OrFld:
		return isFrom0(o.N, mostField)
	}
	return false
}

func isFrom0(n, most int64) bool { return n >= 0 && n <= most }

func isRegister(r api.Reg) bool {
	_, none := names.RegName(r)
	return none == api.OK
}

// isBaseRegister tells whether memory may begin at a register.
func isBaseRegister(r api.Reg) bool {
	return isRegister(r) && r.X && r.SP == (r.N == endReg)
}

// isShift tells whether an operand is shifted or extended by nothing behind last, and how far it may be.
func isShift(o api.Oper, last int) bool {
	if o.Mod == api.ModNone {
		return o.Amt == 0
	}
	return o.Mod > api.ModNone && o.Mod <= last && isAmount(o.Amt)
}

func isAmount(n int) bool { return n >= 0 && n <= mostShift }

func fitsMode(o api.Oper) bool {
	switch o.Mode {
	case api.MmOff, api.MmPre, api.MmPost:
		return true
	case api.MmReg:
		return isIndexRegister(o.M) && isIndex(o.M, o.Mod) && (o.Amt == unshifted || isAmount(o.Amt))
	}
	return false
}

// isIndexRegister tells whether a register may be added to a base.
func isIndexRegister(m api.Reg) bool { return isRegister(m) && !m.SP }

// isIndex tells whether a register that is added to a base may be changed so.
func isIndex(m api.Reg, mod int) bool {
	switch mod {
	case api.ModLsl, api.ModSxtx:
		return m.X
	case api.ModUxtw, api.ModSxtw:
		return !m.X
	}
	return false
}
