package relax

import "cooper/api"

// branchPower is the power of two of whose number a branch's bytes are a multiple, long or not: what aligns to no more has as many bytes whatever is long.
const branchPower = 2

// watch is a section's branches that are not long: what becomes of them is told without going through all items.
type watch struct {
	l     []api.Item
	pads  []int64 // how many bytes each alignment has
	up    []int   // behind each item the first alignment that is greater than it (or how many items there are)
	more  sums    // how many bytes more than at first each item has
	spans *node   // nil: there are none
}

// watched are the branches that are not long.
func watched(l []api.Item, long []bool) *watch {
	at := offsets(l, long)
	w := &watch{l: l, pads: make([]int64, len(l)), up: upwards(l), more: make(sums, len(l)+1)}
	var leaves []*node
	for i, x := range l {
		w.pads[i] = at[i+1] - at[i]
		if isBranch(x) && !long[i] {
			leaves = append(leaves, leaf(spanOf(x, i, at)))
		}
	}
	if len(leaves) > 0 {
		w.spans = joined(leaves, false)
	}
	return w
}

// upwards are, behind each item, the first alignment that is greater than it.
func upwards(l []api.Item) []int {
	up := make([]int, len(l))
	next := len(l)
	for i := len(l) - 1; i >= 0; i-- {
		up[i] = next
		for up[i] < len(l) && l[up[i]].Align <= l[i].Align {
			up[i] = up[up[i]]
		}
		if l[i].Align > branchPower {
			next = i
		}
	}
	return up
}

// next makes branches long, and tells which do not reach then.
func (w *watch) next(far []int) []int {
	if w.spans == nil {
		return nil
	}
	for _, i := range far {
		w.lengthen(i)
	}
	return w.spans.full(nil, w.left)
}

// lengthen makes a branch long: each alignment behind it that does not stand behind one as great has as many bytes more or fewer as bring it to a multiple again.
func (w *watch) lengthen(branch int) {
	more := int64(longBytes - shortBytes)
	w.add(branch, more)
	for i := w.up[branch]; i < len(w.l) && more != 0; i = w.up[i] {
		pad := padding(w.pads[i]-more, w.l[i].Align)
		w.add(i, pad-w.pads[i])
		more += pad - w.pads[i]
		w.pads[i] = pad
	}
}

// add tells of an item that has so many bytes more.
func (w *watch) add(item int, more int64) {
	w.more.add(item, more)
	w.spans.add(item, more)
}

// left is what room a span has.
func (w *watch) left(s span) room {
	more := w.more.ahead(s.to) - w.more.ahead(s.from)
	return s.room.less(room{grow: more, shrink: -more})
}
