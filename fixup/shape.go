package fixup

import (
	"math"

	"cooper/api"
	"cooper/bits"
)

// noType is no relocation's type.
const noType = 0

// shape is what is to be known of a hole, but for its value.
type shape struct {
	width int   // bytes
	plain int   // the relocation of a place
	far   int   // that of how far away it is
	op    int   // of a near hole the class of the instruction whose distance it is
	least int64 // what may be filled in, if anything may
	most  int64
	step  int64 // of what it must be a multiple
}

// shapes are those of the holes, by their kinds.
var shapes = [...]shape{
	api.HoB26:    {width: 4, plain: api.RlJump26, op: api.OpB, least: -1 << 27, most: 1<<27 - 4, step: 4},
	api.HoCall26: {width: 4, plain: api.RlCall26, op: api.OpB, least: -1 << 27, most: 1<<27 - 4, step: 4},
	api.HoCond19: {width: 4, plain: api.RlCond19, op: api.OpBCond, least: -1 << 20, most: 1<<20 - 4, step: 4},
	api.HoTst14:  {width: 4, plain: api.RlTest14, op: api.OpTb, least: -1 << 15, most: 1<<15 - 4, step: 4},
	api.HoLd19:   {width: 4, plain: api.RlLd19, op: api.OpLdLit, least: -1 << 20, most: 1<<20 - 4, step: 4},
	api.HoAdr21:  {width: 4, plain: api.RlAdr21, op: api.OpAdr, least: -1 << 20, most: 1<<20 - 1, step: 1},
	api.HoAdrp21: {width: 4, plain: api.RlPage21},
	api.HoAdd12:  {width: 4, plain: api.RlAdd12},
	api.HoLd12:   {width: 4},
	api.HoAbs1:   {width: 1, least: math.MinInt8, most: math.MaxUint8, step: 1},
	api.HoAbs4:   {width: 4, plain: api.RlAbs32, far: api.RlPrel32, least: math.MinInt32, most: math.MaxUint32, step: 1},
	api.HoAbs8:   {width: 8, plain: api.RlAbs64, far: api.RlPrel64, least: math.MinInt64, most: math.MaxInt64, step: 1},
}

// loads are the relocations of loads and stores, by their sizes.
var loads = [...]int{api.RlLdst8, api.RlLdst16, api.RlLdst32, api.RlLdst64}

// sizes is how many sizes the holes of a kind have.
func sizes(kind int) int {
	if kind == api.HoLd12 {
		return len(loads)
	}
	return 1
}

// shapeOf is the shape of a hole, if there is such a one.
func shapeOf(h api.Hole) (shape, api.Errno) {
	if e := Check(h); e != api.OK {
		return shape{}, e
	}
	s := shapes[h.Kind]
	if h.Kind == api.HoLd12 {
		s.plain = loads[h.Size]
	}
	return s, api.OK
}

// shapeIn is the shape of a hole that has those bytes.
func shapeIn(b []byte, h api.Hole) (shape, api.Errno) {
	s, e := shapeOf(h)
	if e == api.OK && len(b) != s.width {
		return shape{}, api.ErrArg
	}
	return s, e
}

// relocation is a relocation's type: of a place, or of how far away it is.
func (s shape) relocation(far bool) (int, api.Errno) {
	kind := s.plain
	if far {
		kind = s.far
	}
	if kind == noType {
		return 0, api.ErrFix
	}
	return kind, api.OK
}

// isFilled tells whether anything may be filled in: into pages nothing is.
func (s shape) isFilled() bool { return s.step != 0 }

// isNear tells whether it is a distance that is filled in.
func (s shape) isNear() bool { return s.op != 0 }

// fits tells whether v may be filled in, where anything may.
func (s shape) fits(v int64) bool { return v >= s.least && v <= s.most && v%s.step == 0 }

// places are the bits of a class's distance, the lowest ones first.
func places(op int) []api.Field {
	switch op {
	case api.OpB:
		return []api.Field{{Low: 0, Width: 26}}
	case api.OpTb:
		return []api.Field{{Low: 5, Width: 14}}
	case api.OpAdr:
		return []api.Field{{Low: 29, Width: 2}, {Low: 5, Width: 19}}
	}
	return []api.Field{{Low: 5, Width: 19}}
}

// distance is what stands in a word where the distance of a class does.
func distance(w uint32, op int) int64 {
	v, width := uint64(0), 0
	for _, f := range places(op) {
		part, _ := bits.Get(w, f)
		v |= uint64(part) << width
		width += f.Width
	}
	far, _ := bits.Sign(v, width)
	return far
}

// lowBytes are a number's lowest bytes, the lowest one first.
func lowBytes(v int64, width int) []byte {
	b := make([]byte, width)
	for i := range b {
		b[i] = byte(v >> (8 * i))
	}
	return b
}

// number is what stands in bytes; eight of them have a sign.
func number(b []byte) int64 {
	v := int64(0)
	for i, x := range b {
		v |= int64(x) << (8 * i)
	}
	return v
}
