package place

import (
	"iter"

	"cooper/api"
	"cooper/frag"
	"cooper/relax"
)

const wordBytes = 4

// isNumber tells whether one of so many has that number.
func isNumber(n, many int) bool { return n >= 0 && n < many }

func isWord(p api.Piece) bool { return p.Kind == api.PcInst || p.Kind == api.PcBranch }

// firsts are the marks that are the first ones of their names.
func firsts(l []api.Mark) []api.Mark {
	var all []api.Mark
	counts := map[string]int{}
	for _, m := range l {
		if counts[m.Name]++; counts[m.Name] == 1 {
			all = append(all, m)
		}
	}
	return all
}

// partsItems goes through all parts and their items.
func partsItems(u api.Unit) iter.Seq2[api.Part, []api.Item] {
	return func(yield func(api.Part, []api.Item) bool) {
		marks := partsMarks(u)
		for i, p := range u.Parts {
			// A unit of that part alone has the same items, and no other parts' marks, which would be gone through once for each part.
			alone := api.Unit{Parts: u.Parts[i : i+1], Marks: marks[i]}
			if !yield(p, frag.Items(alone, 0)) {
				return
			}
		}
	}
}

// partsMarks are each part's marks, as a unit of that part alone has them.
func partsMarks(u api.Unit) [][]api.Mark {
	l := make([][]api.Mark, len(u.Parts))
	for _, m := range firsts(u.Marks) {
		if part := m.Part; isNumber(part, len(l)) {
			m.Part = 0
			l[part] = append(l[part], m)
		}
	}
	return l
}

// laid is where items begin, and which are long.
func laid(l []api.Item) ([]int64, []bool, api.Errno) {
	long, _, e := relax.Relax(l...)
	if e != api.OK {
		return nil, nil, e
	}
	// What Relax takes Offsets takes, too.
	at, _ := relax.Offsets(l, long)
	if at[len(l)] > api.MaxSecBytes {
		return nil, nil, api.ErrSize
	}
	return at, long, api.OK
}

// placeOf is where a piece of a part begins, or, behind the last one, the part ends; 0 of what there is not.
func placeOf(l api.Layout, part, piece int) int64 {
	if !isNumber(part, len(l.At)) || !isNumber(piece, len(l.At[part])) {
		return 0
	}
	return l.At[part][piece]
}

// endOf is where a part ends; 0 of what there is not.
func endOf(l api.Layout, part int) int64 {
	if !isNumber(part, len(l.At)) || len(l.At[part]) == 0 {
		return 0
	}
	return l.At[part][len(l.At[part])-1]
}

// placed goes through all pieces and their places.
func placed(u api.Unit, l api.Layout) iter.Seq2[api.Piece, int64] {
	return func(yield func(api.Piece, int64) bool) {
		for part, x := range u.Parts {
			for piece, p := range x.Pieces {
				if !yield(p, placeOf(l, part, piece)) {
					return
				}
			}
		}
	}
}
