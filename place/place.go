// Package place is layer 17: see shared/doc/17-place.md.
package place

import (
	"iter"

	"cooper/api"
)

// Lay is where all stands, and what is wrong.
func Lay(u api.Unit) (api.Layout, []api.Fault) { return api.Layout{}, nil }

// Eval is what a value comes to: a number, or a place in a section.
func Eval(v api.Value, part int, off int64, syms ...api.Symbol) (api.Symbol, api.Errno) {
	return api.Symbol{}, api.OK
}

// Symbols are all names, and what is wrong.
func Symbols(u api.Unit, l api.Layout) ([]api.Symbol, []api.Fault) { return nil, nil }

// Bind is a line whose numbers have no symbols, as far as these come to numbers.
func Bind(l api.Line, part int, off int64, syms ...api.Symbol) api.Line { return api.Line{} }

// Odd goes through the instructions that stand at no multiple of 4.
func Odd(u api.Unit, l api.Layout) iter.Seq[api.Fault] { return func(func(api.Fault) bool) {} }

// Same tells whether two layouts are the same.
func Same(a, b api.Layout) bool { return false }
