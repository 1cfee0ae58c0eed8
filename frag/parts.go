package frag

import (
	"bytes"
	"cmp"
	"iter"
	"slices"
	"strings"

	"cooper/api"
)

// first is what a list has first, or zero.
func first[T any](l []T) T {
	if len(l) > 0 {
		return l[0]
	}
	var none T
	return none
}

// isNumber tells whether one of so many has that number.
func isNumber(n, many int) bool { return n >= 0 && n < many }

// pieces goes through the parts' numbers and their pieces.
func pieces(l []api.Part) iter.Seq2[int, api.Piece] {
	return func(yield func(int, api.Piece) bool) {
		for part, x := range l {
			for _, p := range x.Pieces {
				if !yield(part, p) {
					return
				}
			}
		}
	}
}

// numbers are those of each name's first mark.
func numbers(l []api.Mark) map[string]int {
	firsts := map[string]int{}
	for i, m := range l {
		if _, is := firsts[m.Name]; !is {
			firsts[m.Name] = i
		}
	}
	return firsts
}

// order tells which of two faults comes first.
func order(a, b api.Fault) int {
	return cmp.Or(cmp.Compare(a.File, b.File), cmp.Compare(a.Line, b.Line), cmp.Compare(a.Err, b.Err))
}

func samePart(a, b api.Part) bool {
	return a.Name == b.Name && a.File == b.File && a.Line == b.Line && slices.EqualFunc(a.Pieces, b.Pieces, samePiece)
}

func samePiece(a, b api.Piece) bool {
	return a.Kind == b.Kind && a.File == b.File && a.Line == b.Line &&
		a.L.Name == b.L.Name && slices.Equal(a.L.Opers, b.L.Opers) &&
		a.V == b.V && a.Size == b.Size && bytes.Equal(a.B, b.B) && a.Align == b.Align
}

// kept are parts of nothing but their pieces, in memory of their own.
func kept(l []api.Part) []api.Part {
	c := make([]api.Part, len(l))
	for i, p := range l {
		for _, x := range p.Pieces {
			c[i].Pieces = append(c[i].Pieces, clonedPiece(x))
		}
	}
	return c
}

// clonedPiece is a piece in memory of its own.
func clonedPiece(p api.Piece) api.Piece {
	p.L.Name = strings.Clone(p.L.Name)
	p.L.Opers = slices.Clone(p.L.Opers)
	for i, o := range p.L.Opers {
		p.L.Opers[i].V = clonedValue(o.V)
	}
	p.V = clonedValue(p.V)
	p.B = slices.Clone(p.B)
	return p
}

// clonedMark is a mark in memory of its own.
func clonedMark(m api.Mark) api.Mark {
	m.Name = strings.Clone(m.Name)
	m.V = clonedValue(m.V)
	return m
}

func clonedValue(v api.Value) api.Value {
	return api.Value{Add: v.Add, Plus: strings.Clone(v.Plus), Minus: strings.Clone(v.Minus)}
}
