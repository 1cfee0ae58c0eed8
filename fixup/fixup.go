// Package fixup is layer 18: see shared/doc/18-fixup.md.
package fixup

import (
	"iter"

	"cooper/api"
	"cooper/bits"
	"cooper/enc"
)

// Check tells whether there is a hole of that kind and size.
func Check(h api.Hole) api.Errno {
	h.V = api.Value{}
	for x := range Holes() {
		if x == h {
			return api.OK
		}
	}
	return api.ErrArg
}

// Width is how many bytes a hole has.
func Width(h api.Hole) int {
	s, _ := shapeOf(h)
	return s.width
}

// Type is the relocation of a hole: of a place, or of how far away it is.
func Type(h api.Hole, far bool) (int, api.Errno) {
	s, e := shapeOf(h)
	if e != api.OK {
		return 0, e
	}
	return s.relocation(far)
}

// Reach is the least and the greatest number that may be filled in, and of what it must be a multiple.
func Reach(h api.Hole) (int64, int64, int64, bool) {
	s, _ := shapeOf(h)
	return s.least, s.most, s.step, s.isFilled()
}

// Resolve is what becomes of a hole at a byte of a section.
func Resolve(h api.Hole, section int, off int64, syms ...api.Symbol) (api.Fix, api.Errno) {
	s, e := shapeOf(h)
	if e != api.OK {
		return api.Fix{}, e
	}
	at := spot{section: section, off: off, syms: syms}
	v, e := summed(h.V, at.find)
	if e != api.OK {
		return api.Fix{}, e
	}
	return at.fix(s, v)
}

// Fill is a hole's bytes with a value in them.
func Fill(b []byte, h api.Hole, v int64) ([]byte, api.Errno) {
	s, e := shapeIn(b, h)
	switch {
	case e != api.OK:
		return nil, e
	case !s.isFilled():
		return nil, api.ErrFix
	case !s.fits(v):
		return nil, api.ErrReach
	case s.isNear():
		w, _ := bits.Word(b)
		w, _ = enc.Sets(w, s.op, v/s.step)
		return bits.Bytes(w), api.OK
	}
	return lowBytes(v, s.width), api.OK
}

// Read is the value that stands in a hole's bytes.
func Read(b []byte, h api.Hole) (int64, api.Errno) {
	s, e := shapeIn(b, h)
	switch {
	case e != api.OK:
		return 0, e
	case !s.isFilled():
		return 0, api.ErrFix
	case s.isNear():
		w, _ := bits.Word(b)
		return distance(w, s.op) * s.step, api.OK
	}
	return number(b), api.OK
}

// Holes goes through all holes, by kinds and sizes.
func Holes() iter.Seq[api.Hole] {
	return func(yield func(api.Hole) bool) {
		for kind := api.HoB26; kind <= api.HoAbs8; kind++ {
			for size := range sizes(kind) {
				if !yield(api.Hole{Kind: kind, Size: size}) {
					return
				}
			}
		}
	}
}
