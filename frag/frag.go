// Package frag is layer 15: see shared/doc/15-frag.md.
package frag

import (
	"iter"
	"slices"

	"cooper/api"
)

// One is what a file's rows come to, and what is wrong.
func One(file int, rows []api.Row) (api.Unit, []api.Fault) {
	p := parter{maker: made(), file: file, section: ".text"}
	for _, r := range rows {
		p.row(r)
	}
	return p.u, p.faults
}

// Join are units one behind the other.
func Join(l ...api.Unit) api.Unit {
	m := made()
	for _, u := range l {
		m.join(u)
	}
	return m.u
}

// Faults is what is wrong with all of it together.
func Faults(u api.Unit) []api.Fault {
	var l []api.Fault
	firsts := numbers(u.Marks)
	for i, m := range u.Marks {
		if firsts[m.Name] != i {
			l = append(l, api.Fault{File: m.File, Line: m.Line, Err: api.ErrTwice})
		}
	}
	for i, p := range u.Parts {
		if i >= api.MaxSections {
			l = append(l, api.Fault{File: p.File, Line: p.Line, Err: api.ErrLong})
		}
	}
	slices.SortFunc(l, order)
	return l
}

// Items are a part's pieces for relax.
func Items(u api.Unit, part int) []api.Item {
	if !isNumber(part, len(u.Parts)) {
		return nil
	}
	var l []api.Item
	firsts := numbers(u.Marks)
	for _, p := range u.Parts[part].Pieces {
		x := item(p)
		if p.Kind == api.PcBranch {
			x = branch(p.L, u.Marks, firsts, part)
		}
		l = append(l, x)
	}
	return l
}

// Grows tells whether a line is a branch that may have to be two, and how far it reaches.
func Grows(l api.Line) (int64, int64, bool) {
	reach := reachOf(l.Name)
	if _, leads := aim(l); reach == 0 || !leads {
		return 0, 0, false
	}
	return -reach, reach - wordBytes, true
}

// Pieces goes through all pieces, part by part.
func Pieces(u api.Unit) iter.Seq2[int, api.Piece] {
	parts := kept(u.Parts)
	return func(yield func(int, api.Piece) bool) {
		for part, p := range pieces(parts) {
			// Whoever is told a piece may change its lists, and range again.
			if !yield(part, clonedPiece(p)) {
				return
			}
		}
	}
}

// Mark is the first one of a name.
func Mark(u api.Unit, name string) (api.Mark, bool) {
	i := slices.IndexFunc(u.Marks, func(m api.Mark) bool { return m.Name == name })
	if i < 0 {
		return api.Mark{}, false
	}
	return clonedMark(u.Marks[i]), true
}

// Same tells whether two units are the same.
func Same(a, b api.Unit) bool {
	return slices.EqualFunc(a.Parts, b.Parts, samePart) && slices.Equal(a.Marks, b.Marks) && slices.Equal(a.Globals, b.Globals)
}
