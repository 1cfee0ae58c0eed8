package alias_test

import (
	"iter"
	"math"
	"math/rand/v2"
	"slices"

	"cooper/api"
	"cooper/inst"
	"cooper/logimm"
)

// equal tells whether two lines have one name and the same operands.
func equal(a, b api.Line) bool { return a.Name == b.Name && slices.Equal(a.Opers, b.Opers) }

// usual are numbers of a field from which the lines' forms may hang: registers that are told apart, all numbers of a short field, and the edges of a long one.
func usual(op int, l api.Limit) []int64 {
	switch {
	case l.Field >= api.FdRd && l.Field <= api.FdRa && l.Most == 31:
		return []int64{0, 1, 30, 31}
	case op == api.OpLogImm && l.Field == api.FdA:
		return []int64{1, 0xff, 0xff00, 0xffff0000, 0xfffffffe, 0x55555555, 0x3fffc, -2, 0x5555555555555555, math.MinInt64, math.MaxInt64, -1 << 17}
	case op == api.OpMovWide && l.Field == api.FdA:
		return []int64{0, 1, 0x7fff, 0x8000, 0xfffe, 0xffff}
	case op == api.OpBitfield && l.Field != api.FdB:
		return []int64{0, 1, 6, 7, 8, 9, 14, 15, 16, 17, 30, 31, 32, 33, 47, 62, 63}
	case (op == api.OpLogReg || op == api.OpAddReg || op == api.OpExtract) && l.Field == api.FdA:
		return []int64{0, 1, 15, 31, 32, 63}
	case op == api.OpCcmp && l.Field != api.FdB:
		return []int64{0, 1, 7, 14, 15}
	case l.Most-l.Least < 128 || op == api.OpSys:
		return all(l.Least, l.Most)
	}
	return []int64{l.Least, l.Least + 1, -1 + l.Least/2, 0, 1, 3, 255, l.Most / 2, l.Most - 1, l.Most}
}

func all(least, most int64) []int64 {
	var l []int64
	for v := least; v <= most; v++ {
		l = append(l, v)
	}
	return l
}

// usualInsts goes through all instructions of usual numbers.
func usualInsts() iter.Seq[api.Inst] {
	return func(yield func(api.Inst) bool) {
		for op := api.OpAdr; op <= api.OpDp3; op++ {
			if !through(api.Inst{Op: op}, slices.Collect(inst.Limits(op)), yield) {
				return
			}
		}
	}
}

// through goes through all instructions that have usual numbers in the fields that are left.
func through(x api.Inst, left []api.Limit, yield func(api.Inst) bool) bool {
	if len(left) == 0 {
		return inst.Check(x) != api.OK || yield(x)
	}
	for _, v := range usual(x.Op, left[0]) {
		if v < left[0].Least || v > left[0].Most {
			continue
		}
		with, _ := inst.With(x, left[0].Field, v)
		if !through(with, left[1:], yield) {
			return false
		}
	}
	return true
}

// drawnInsts goes through as many drawn instructions of each class.
func drawnInsts(seed uint64, each int) iter.Seq[api.Inst] {
	return func(yield func(api.Inst) bool) {
		r := rand.New(rand.NewPCG(7, seed))
		for op := api.OpAdr; op <= api.OpDp3; op++ {
			for range each {
				if !yield(drawn(r, op)) {
					return
				}
			}
		}
	}
}

// drawn is an instruction of a class.
func drawn(r *rand.Rand, op int) api.Inst {
	for {
		x := api.Inst{Op: op}
		for l := range inst.Limits(op) {
			v := int64(r.Uint64())
			if most := uint64(l.Most - l.Least); most != math.MaxUint64 {
				v = l.Least + int64(r.Uint64N(most+1))
			}
			x, _ = inst.With(x, l.Field, v)
		}
		if op == api.OpLogImm {
			x.A = drawnPattern(r, x.X)
		}
		if inst.Check(x) == api.OK {
			return x
		}
	}
}

// drawnPattern is a logical immediate.
func drawnPattern(r *rand.Rand, long bool) int64 {
	width := 32
	if long {
		width = 64
	}
	for {
		if v, e := logimm.Value(r.IntN(1<<api.LogBits), width); e == api.OK {
			return int64(v)
		}
	}
}
