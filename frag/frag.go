// Package frag is layer 15: see shared/doc/15-frag.md.
package frag

import (
	"iter"

	"cooper/api"
)

// One is what a file's rows come to, and what is wrong.
func One(file int, rows []api.Row) (api.Unit, []api.Fault) { return api.Unit{}, nil }

// Join are units one behind the other.
func Join(l ...api.Unit) api.Unit { return api.Unit{} }

// Faults is what is wrong with all of it together.
func Faults(u api.Unit) []api.Fault { return nil }

// Items are a part's pieces for relax.
func Items(u api.Unit, part int) []api.Item { return nil }

// Grows tells whether a line is a branch that may have to be two, and how far it reaches.
func Grows(l api.Line) (int64, int64, bool) { return 0, 0, false }

// Pieces goes through all pieces, part by part, Mark is the first one of a name.
func Pieces(u api.Unit) iter.Seq2[int, api.Piece] { return func(func(int, api.Piece) bool) {} }

func Mark(u api.Unit, name string) (api.Mark, bool) { return api.Mark{}, false }

// Same tells whether two units are the same.
func Same(a, b api.Unit) bool { return false }
