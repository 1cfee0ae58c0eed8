package relax

import (
	"cmp"
	"slices"
)

// node is spans: one (a leaf), or those of two nodes.
type node struct {
	firstFrom, lastFrom int
	firstTo, lastTo     int
	least               room // none of its spans has less
	taken               room // what is taken from all of them, and is not told to its halves yet
	left, right         *node
	span                span // a leaf's, with the room that it had at first
}

func leaf(s span) *node {
	return &node{firstFrom: s.from, lastFrom: s.from, firstTo: s.to, lastTo: s.to, least: s.room, span: s}
}

// joined are leaves (at least one), which it sorts, as one node: halved by turns where they begin and where they end, so that of most nodes an item lies in all spans, or in none.
func joined(l []*node, byEnd bool) *node {
	if len(l) == 1 {
		return l[0]
	}
	slices.SortFunc(l, func(a, b *node) int {
		if byEnd {
			return cmp.Compare(a.lastTo, b.lastTo)
		}
		return cmp.Compare(a.firstFrom, b.firstFrom)
	})
	half := len(l) / 2
	a, b := joined(l[:half], !byEnd), joined(l[half:], !byEnd)
	return &node{
		firstFrom: min(a.firstFrom, b.firstFrom), lastFrom: max(a.lastFrom, b.lastFrom),
		firstTo: min(a.firstTo, b.firstTo), lastTo: max(a.lastTo, b.lastTo),
		least: lesser(a.least, b.least), left: a, right: b,
	}
}

// add tells of an item that has so many bytes more.
func (n *node) add(item int, more int64) {
	if item < n.firstFrom || item >= n.lastTo {
		return
	}
	if item >= n.lastFrom && item < n.firstTo {
		n.take(room{grow: more, shrink: -more})
		return
	}
	// As long as all spans have room for it, it need not be known in which ones the item lies.
	most := room{grow: max(more, 0), shrink: max(-more, 0)}
	if !n.least.less(most).isFull() {
		n.take(most)
		return
	}
	n.tell()
	n.left.add(item, more)
	n.right.add(item, more)
	n.least = lesser(n.left.least, n.right.least)
}

// take takes room from all spans.
func (n *node) take(r room) {
	n.least = n.least.less(r)
	n.taken.grow += r.grow
	n.taken.shrink += r.shrink
}

// tell tells the halves what is taken.
func (n *node) tell() {
	n.left.take(n.taken)
	n.right.take(n.taken)
	n.taken = room{}
}

// full adds to a list the branches whose spans have no room any more, and gives up these; left tells what room a span has, as more may have been taken than is true.
func (n *node) full(l []int, left func(span) room) []int {
	if !n.least.isFull() {
		return l
	}
	if n.left != nil {
		n.tell()
		l = n.right.full(n.left.full(l, left), left)
		n.least = lesser(n.left.least, n.right.least)
		return l
	}
	n.least = left(n.span)
	if n.least.isFull() {
		n.least = room{grow: never, shrink: never}
		l = append(l, n.span.branch)
	}
	return l
}
