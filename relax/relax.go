// Package relax is layer 16: see shared/doc/16-relax.md.
package relax

import (
	"iter"
	"slices"

	"cooper/api"
)

// Check tells whether items may be those of a section.
func Check(l ...api.Item) api.Errno {
	if len(l) > api.MaxItems {
		return api.ErrLong
	}
	most := int64(0)
	for _, x := range l {
		if !mayBe(x, len(l)) {
			return api.ErrItem
		}
		most += greatest(x)
	}
	if most > api.MaxBytes {
		return api.ErrSize
	}
	return api.OK
}

// Offsets are where each item begins, and where the last one ends.
func Offsets(l []api.Item, long []bool) ([]int64, api.Errno) {
	if e := Check(l...); e != api.OK {
		return nil, e
	}
	if len(long) != len(l) {
		return nil, api.ErrArg
	}
	return offsets(l, long), api.OK
}

// Reaches tells whether an item is a branch that is not too far away from where it leads.
func Reaches(l []api.Item, long []bool, n int) bool {
	at, e := Offsets(l, long)
	return e == api.OK && n >= 0 && n < len(l) && isBranch(l[n]) && reaches(l[n], n, at)
}

// Round makes those branches long, too, that do not reach, and tells how many these are.
func Round(l []api.Item, long []bool) ([]bool, int, api.Errno) {
	at, e := Offsets(l, long)
	if e != api.OK {
		return nil, 0, e
	}
	far := tooFar(l, long, at)
	now := slices.Clone(long)
	for i, x := range l {
		now[i] = now[i] && isBranch(x)
	}
	mark(now, far)
	return now, len(far), api.OK
}

// Relax makes as many branches long as must be, and tells in how many rounds.
func Relax(l ...api.Item) ([]bool, int, api.Errno) {
	if e := Check(l...); e != api.OK {
		return nil, 0, e
	}
	s := begun(l)
	count := 0
rounds:
	for more := range s.rounds() {
		switch more {
		case 0:
			break rounds
		default:
			count++
		}
	}
	return s.long, count, api.OK
}

// Rounds goes through what each round makes of it.
func Rounds(l ...api.Item) iter.Seq[[]bool] {
	kept := slices.Clone(l)
	return func(yield func([]bool) bool) {
		if Check(kept...) != api.OK {
			return
		}
		s := begun(kept)
		for more := range s.rounds() {
			if !yield(slices.Clone(s.long)) || more == 0 {
				return
			}
		}
	}
}

// Fits tells whether each branch that is not long reaches.
func Fits(l []api.Item, long []bool) bool {
	at, e := Offsets(l, long)
	return e == api.OK && len(tooFar(l, long, at)) == 0
}
