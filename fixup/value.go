package fixup

import "cooper/api"

const (
	here    = "." // the name of the place where a value stands
	nowhere = -1  // its number among the symbols: it is none of them
)

// part is what a name in a value is; a zero one is none.
type part struct {
	is      bool
	section int
	value   int64
	number  int // among the symbols
}

// isNumber tells whether it is a number, wherever sections stand.
func (p part) isNumber() bool { return p.is && p.section == api.AbsSection }

// isIn tells whether it stands in a section of which it is known where it begins.
func (p part) isIn(section int) bool {
	return p.is && p.section == section && section != api.NoSection
}

// sum is what a value comes to: a number, and what is more and less by addresses that are not known.
type sum struct {
	n     int64
	plus  part
	minus part
}

// summed is what a value comes to whose names find looks up.
func summed(v api.Value, find func(string) (part, api.Errno)) (sum, api.Errno) {
	plus, e := find(v.Plus)
	if e != api.OK {
		return sum{}, e
	}
	minus, e := find(v.Minus)
	if e != api.OK {
		return sum{}, e
	}
	return sum{n: v.Add, plus: plus, minus: minus}.reckoned(), api.OK
}

// reckoned is a sum in which nothing is left that is known wherever sections stand.
func (s sum) reckoned() sum {
	if s.plus.isNumber() {
		s.n += s.plus.value
		s.plus = part{}
	}
	if s.minus.isNumber() {
		s.n -= s.minus.value
		s.minus = part{}
	}
	if s.minus.is && s.plus.isIn(s.minus.section) {
		return sum{n: s.n + s.plus.value - s.minus.value}
	}
	return s
}

// spot is where a hole stands: a byte of a section; and the symbols that its value may name.
type spot struct {
	section int
	off     int64
	syms    []api.Symbol
}

// find looks up a name.
func (at spot) find(name string) (part, api.Errno) {
	switch name {
	case "":
		return part{}, api.OK
	case here:
		return part{is: true, section: at.section, value: at.off, number: nowhere}, api.OK
	}
	for i := range at.syms {
		if s := &at.syms[i]; s.Name == name {
			return part{is: true, section: s.Section, value: s.Value, number: i}, api.OK
		}
	}
	return part{}, api.ErrNone
}

// fix is what becomes of a hole whose value comes to v.
func (at spot) fix(s shape, v sum) (api.Fix, api.Errno) {
	switch {
	case v.minus.is:
		if !v.minus.isIn(at.section) {
			return api.Fix{}, api.ErrFix
		}
		// How far it is from the symbol that is less is how far it is from here, and what lies between.
		v.n += at.off - v.minus.value
		return at.relocated(s, true, v)
	case v.plus.is:
		if s.isNear() && v.plus.isIn(at.section) {
			return s.filled(v.plus.value + v.n - at.off)
		}
		return at.relocated(s, false, v)
	case s.isNear():
		// How far away a number is hangs on where sections stand, and no relocation has a number alone.
		return api.Fix{}, api.ErrFix
	}
	return s.filled(v.n)
}

// relocated is the relocation by a symbol: to it, or how far away it is.
func (at spot) relocated(s shape, far bool, v sum) (api.Fix, api.Errno) {
	if !v.plus.is || v.plus.number == nowhere {
		return api.Fix{}, api.ErrFix
	}
	kind, e := s.relocation(far)
	if e != api.OK {
		return api.Fix{}, e
	}
	return api.Fix{Reloc: true, R: api.Reloc{Off: at.off, Type: kind, Sym: v.plus.number, Addend: v.n}}, api.OK
}

// filled is a number that is filled in, if it may be.
func (s shape) filled(n int64) (api.Fix, api.Errno) {
	switch {
	case !s.isFilled():
		return api.Fix{}, api.ErrFix
	case !s.fits(n):
		return api.Fix{}, api.ErrReach
	}
	return api.Fix{Patch: true, Value: n}, api.OK
}
