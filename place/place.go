// Package place is layer 17: see shared/doc/17-place.md.
package place

import (
	"iter"
	"slices"

	"cooper/api"
)

// Lay is where all stands, and what is wrong.
func Lay(u api.Unit) (api.Layout, []api.Fault) {
	var l api.Layout
	var faults []api.Fault
	for p, items := range partsItems(u) {
		at, long, e := laid(items)
		if e != api.OK {
			faults = append(faults, api.Fault{File: p.File, Line: p.Line, Err: e})
		}
		l.At = append(l.At, at)
		l.Long = append(l.Long, long)
	}
	return l, faults
}

// Eval is what a value comes to: a number, or a place in a section.
func Eval(v api.Value, part int, off int64, syms ...api.Symbol) (api.Symbol, api.Errno) {
	return booked(syms, slices.Collect(names(v))).eval(v, part, off)
}

// Symbols are all names, and what is wrong.
func Symbols(u api.Unit, l api.Layout) ([]api.Symbol, []api.Fault) {
	n := named(u, l)
	n.reckonAll()
	return n.symbols(u.Globals), n.faults()
}

// Bind is a line whose numbers have no symbols, as far as these come to numbers.
func Bind(l api.Line, part int, off int64, syms ...api.Symbol) api.Line {
	bound := clonedLine(l)
	b := booked(syms, asked(l))
	for i, o := range l.Opers {
		if s, e := b.eval(o.V, part, off); isBound(o) && e == api.OK && s.Section == api.AbsSection {
			bound.Opers[i].V = api.Value{Add: s.Value}
		}
	}
	return bound
}

// Odd goes through the instructions that stand at no multiple of 4.
func Odd(u api.Unit, l api.Layout) iter.Seq[api.Fault] {
	var odd []api.Fault
	for p, at := range placed(u, l) {
		// A piece without a place is at 0, which is not odd.
		if isWord(p) && at%wordBytes != 0 {
			odd = append(odd, api.Fault{File: p.File, Line: p.Line, Err: api.ErrOdd})
		}
	}
	return slices.Values(odd)
}

// Same tells whether two layouts are the same.
func Same(a, b api.Layout) bool {
	return slices.EqualFunc(a.At, b.At, slices.Equal) && slices.EqualFunc(a.Long, b.Long, slices.Equal)
}
