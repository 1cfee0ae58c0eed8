package relax

import (
	"math"

	"cooper/api"
)

// never is more bytes than there are.
const never = math.MaxInt64 / 2

// room is how many bytes more, and how many fewer, there may be.
type room struct {
	grow   int64
	shrink int64
}

// isFull tells whether there are more bytes, or fewer, than there may be.
func (r room) isFull() bool { return r.grow < 0 || r.shrink < 0 }

func (r room) less(by room) room { return room{grow: r.grow - by.grow, shrink: r.shrink - by.shrink} }

// lesser is the room that two both have.
func lesser(a, b room) room {
	return room{grow: min(a.grow, b.grow), shrink: min(a.shrink, b.shrink)}
}

// span is a branch, the items over which it leads, and the room that these have while it reaches.
type span struct {
	branch int
	from   int // the first item
	to     int // the one behind the last
	room   room
}

// spanOf is what a branch leads over, which is the item n.
func spanOf(x api.Item, n int, at []int64) span {
	far := at[x.To] + x.Add - at[n]
	if x.To < n {
		return span{branch: n, from: x.To, to: n, room: room{grow: far - x.Low, shrink: x.High - far}}
	}
	return span{branch: n, from: n, to: x.To, room: room{grow: x.High - far, shrink: far - x.Low}}
}
