package match_test

import (
	"iter"
	"math"
	"math/rand/v2"
	"slices"

	"cooper/api"
	"cooper/inst"
	"cooper/logimm"
)

// usual are numbers of a field from which the lines' forms may hang: registers that are told apart, all numbers of a short field, and the edges of a long one.
func usual(op int, l api.Limit) []int64 {
	switch {
	case l.Field >= api.FdRd && l.Field <= api.FdRa && l.Most == 31:
		return []int64{0, 1, 30, 31}
	case op == api.OpLogImm && l.Field == api.FdA:
		return []int64{1, 0xff, 0xff00, 0xffff0000, 0xfffffffe, 0x55555555, 0x3fffc, -2, 0x5555555555555555, math.MinInt64, math.MaxInt64, -1 << 17}
	case op == api.OpMovWide && l.Field == api.FdA:
		return []int64{0, 1, 2, 0x7fff, 0x8000, 0xfffe, 0xffff}
	case op == api.OpBitfield && l.Field != api.FdB:
		return []int64{0, 1, 7, 8, 15, 16, 30, 31, 32, 33, 62, 63}
	case l.Field == api.FdA && (op == api.OpLogReg || op == api.OpAddReg || op == api.OpExtract):
		return []int64{0, 1, 3, 31, 32, 63}
	case l.Field == api.FdA && op == api.OpPair:
		return []int64{-64, -2, 0, 1, 2, 63}
	case l.Field == api.FdA && op == api.OpSys:
		return []int64{0, 1, 2, 0x8, 0x3fff, 0x2aaa, 1 << 7, 1 << 11}
	case l.Field == api.FdA && op == api.OpLdIdx:
		return []int64{-256, -8, -1, 0, 1, 2, 3, 4, 8, 255}
	case op == api.OpCcmp && l.Field != api.FdB:
		return []int64{0, 1, 14, 15}
	case l.Most-l.Least < 128:
		return all(l.Least, l.Most)
	}
	return []int64{l.Least, l.Least + 1, -1, 0, 1, 2, 3, 4, 255, 256, l.Most - 1, l.Most}
}

func all(least, most int64) []int64 {
	var l []int64
	for v := least; v <= most; v++ {
		l = append(l, v)
	}
	return l
}

// usualInsts goes through all instructions of usual numbers.
func usualInsts() iter.Seq[api.Inst] {
	return func(yield func(api.Inst) bool) {
		for op := api.OpAdr; op <= api.OpDp3; op++ {
			if !through(api.Inst{Op: op}, slices.Collect(inst.Limits(op)), yield) {
				return
			}
		}
	}
}

// through goes through all instructions that have usual numbers in the fields that are left.
func through(x api.Inst, left []api.Limit, yield func(api.Inst) bool) bool {
	if len(left) == 0 {
		return inst.Check(x) != api.OK || yield(x)
	}
	for _, v := range usual(x.Op, left[0]) {
		if v < left[0].Least || v > left[0].Most {
			continue
		}
		with, _ := inst.With(x, left[0].Field, v)
		if !through(with, left[1:], yield) {
			return false
		}
	}
	return true
}

// drawn is an instruction of a class.
func drawn(r *rand.Rand, op int) api.Inst {
	for {
		x := api.Inst{Op: op}
		for l := range inst.Limits(op) {
			v := int64(r.Uint64())
			if most := uint64(l.Most - l.Least); most != math.MaxUint64 {
				v = l.Least + int64(r.Uint64N(most+1))
			}
			if l.Field >= api.FdRd && l.Field <= api.FdRa && r.IntN(4) == 0 {
				v = l.Most
			}
			x, _ = inst.With(x, l.Field, v)
		}
		if op == api.OpLogImm {
			x.A = drawnPattern(r, x.X)
		}
		if inst.Check(x) == api.OK {
			return x
		}
	}
}

// drawnPattern is a logical immediate.
func drawnPattern(r *rand.Rand, long bool) int64 {
	width := 32
	if long {
		width = 64
	}
	for {
		if v, e := logimm.Value(r.IntN(1<<api.LogBits), width); e == api.OK {
			return int64(v)
		}
	}
}

// pool are operands that lines may have, some that no line has, and some that may not be.
func pool() []api.Oper {
	l := []api.Oper{{}, {Kind: -1}, {Kind: 10}, {Kind: 12, Mod: 1}}
	for _, n := range []int{0, 1, 30, 31} {
		for _, long := range []bool{false, true} {
			l = append(l, reg(n, long))
		}
	}
	for _, long := range []bool{false, true} {
		l = append(l, api.Oper{Kind: api.OrReg, R: api.Reg{N: 31, X: long, SP: true}})
		for mod := api.ModLsl; mod <= api.ModSxtx; mod++ {
			o := reg(1, long)
			o.Mod = mod
			l = append(l, o)
			o.Amt = 3
			l = append(l, o)
		}
	}
	for _, n := range []int64{0, 1, -1, 2, 3, 4, 7, 8, 12, 31, 32, 63, 64, -2, -8, 255, 256, 4095, 4096, 8192, 4097, 65535, 65536, 4095 << 12, 1 << 31, 1 << 32, -1 << 31, -1<<31 - 1, math.MinInt64, math.MaxInt64} {
		l = append(l, num(n), to(api.Value{Add: n}))
	}
	shifted := num(1)
	shifted.Mod = api.ModLsl
	l = append(l, shifted)
	for _, n := range []int{12, 16, 17, 32, 48} {
		shifted.Amt = n
		l = append(l, shifted)
	}
	for kind := api.OrCond; kind <= api.OrFld; kind++ {
		if kind != api.OrMem {
			l = append(l, api.Oper{Kind: kind}, api.Oper{Kind: kind, N: 1}, api.Oper{Kind: kind, N: 4}, api.Oper{Kind: kind, N: 15}, api.Oper{Kind: kind, N: 16912}, api.Oper{Kind: kind, N: -1})
		}
	}
	return slices.Concat(l, memories(), opens())
}

// memories are operands of memory without symbols.
func memories() []api.Oper {
	var l []api.Oper
	for mode := api.MmOff; mode <= api.MmPost; mode++ {
		for _, n := range []int64{0, 1, 2, 4, 8, -8, -1, -256, -257, 255, 256, 504, 4095, 32760, 32761, math.MinInt64} {
			l = append(l, mem(mode, api.Value{Add: n}))
		}
	}
	for mod := api.ModNone; mod <= api.ModSxtx; mod++ {
		for _, amount := range []int{-1, 0, 1, 2, 3} {
			o := mem(api.MmReg, api.Value{})
			o.M, o.Mod, o.Amt = api.Reg{N: 2, X: mod%2 != 0 || mod == api.ModSxtx}, mod, amount
			l = append(l, o)
		}
	}
	return append(l, api.Oper{Kind: api.OrMem, R: api.Reg{N: 31, X: true, SP: true}}, api.Oper{Kind: api.OrMem, R: api.Reg{N: 31, X: true}}, mem(4, api.Value{}))
}

// opens are operands with symbols, or Lo: such as may be, and such as may not.
func opens() []api.Oper {
	var l []api.Oper
	for _, v := range []api.Value{{Add: 8}, sym("v", 0), sym("v", 4), {Minus: "w"}, {Plus: "v", Minus: "w", Add: -1}, sym(".", 0), sym("x0", 0), {Plus: "v", Minus: "v"}} {
		for _, low := range []bool{false, true} {
			for _, o := range []api.Oper{num(0), to(v), mem(api.MmOff, v), mem(api.MmPre, v), reg(1, true), {Kind: api.OrCond}, {}} {
				o.V, o.Lo = v, low
				l = append(l, o)
			}
		}
	}
	shifted := num(0)
	shifted.V, shifted.Lo, shifted.Mod, shifted.Amt = sym("v", 0), true, api.ModLsl, 12
	return append(l, shifted)
}
