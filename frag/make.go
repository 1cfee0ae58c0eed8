package frag

import (
	"strings"

	"cooper/api"
)

// maker makes a unit; numbers are those of its parts, by their names.
type maker struct {
	u       api.Unit
	numbers map[string]int
}

func made() maker { return maker{numbers: map[string]int{}} }

// part is the number of the part of a name, which is there from now on.
func (m *maker) part(name string, file, line int) int {
	n, is := m.numbers[name]
	if !is {
		n = len(m.u.Parts)
		name = strings.Clone(name)
		m.numbers[name] = n
		m.u.Parts = append(m.u.Parts, api.Part{Name: name, File: file, Line: line})
	}
	return n
}

// spot is a place among pieces: ahead of a piece of a part.
type spot struct {
	part  int
	piece int
}

// end is the place behind all pieces of a part.
func (m *maker) end(part int) spot { return spot{part, len(m.u.Parts[part].Pieces)} }

func (m *maker) put(part int, p api.Piece) {
	to := &m.u.Parts[part]
	to.Pieces = append(to.Pieces, clonedPiece(p))
}

func (m *maker) mark(x api.Mark) { m.u.Marks = append(m.u.Marks, clonedMark(x)) }

func (m *maker) tell(x api.Told) {
	x.Name = strings.Clone(x.Name)
	m.u.Globals = append(m.u.Globals, x)
}

// join puts a unit behind what is there.
func (m *maker) join(u api.Unit) {
	begins := make([]spot, len(u.Parts))
	for i, p := range u.Parts {
		begins[i] = m.end(m.part(p.Name, p.File, p.Line))
		for _, x := range p.Pieces {
			m.put(begins[i].part, x)
		}
	}
	for _, x := range u.Marks {
		m.mark(moved(x, begins))
	}
	for _, x := range u.Globals {
		m.tell(x)
	}
}

// moved is a mark of a unit whose parts begin at those places.
func moved(x api.Mark, begins []spot) api.Mark {
	if !isNumber(x.Part, len(begins)) {
		x.Part, x.Piece = -1, 0
		return x
	}
	at := begins[x.Part]
	x.Part, x.Piece = at.part, at.piece+x.Piece
	return x
}
