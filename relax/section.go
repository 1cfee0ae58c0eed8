package relax

import (
	"iter"
	"math/bits"

	"cooper/api"
)

// section is items on their way, round by round.
type section struct {
	l     []api.Item
	long  []bool
	done  int   // rounds
	far   []int // what the last round made long
	watch *watch
}

// begun is a section of which nothing is long yet.
func begun(l []api.Item) *section { return &section{l: l, long: make([]bool, len(l))} }

// rounds goes on round by round, without an end, and tells of each how many branches it makes long.
func (s *section) rounds() iter.Seq[int] {
	return func(yield func(int) bool) {
		for more := true; more; {
			s.far = s.next()
			s.done++
			mark(s.long, s.far)
			more = yield(len(s.far))
		}
	}
}

// next is what does not reach as things are.
func (s *section) next() []int {
	switch {
	case s.watch != nil:
		return s.watch.next(s.far)
	case s.done < bits.Len(uint(len(s.l))):
		// Most sections have few rounds: to go through all items so often is less work than to begin to watch them.
		return tooFar(s.l, s.long, offsets(s.l, s.long))
	}
	s.watch = watched(s.l, s.long)
	return s.watch.next(nil)
}
