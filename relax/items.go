package relax

import "cooper/api"

// The bytes of a branch.
const (
	shortBytes = 4
	longBytes  = 8
)

// farthest is the greatest number that may tell how far a branch leads.
const farthest = 1 << 30

// mayBe tells whether an item may be one of so many.
func mayBe(x api.Item, many int) bool {
	switch x.Kind {
	case api.ItBytes:
		return x == api.Item{Kind: x.Kind, Size: x.Size} && x.Size >= 0 && x.Size <= api.MaxBytes
	case api.ItAlign:
		return x == api.Item{Kind: x.Kind, Align: x.Align} && x.Align >= 0 && x.Align <= api.MaxAlign
	case api.ItBranch:
		return x.Size == 0 && x.Align == 0 && x.To >= 0 && x.To <= many && isFar(x.Add) && isFar(x.Low) && isFar(x.High)
	}
	return false
}

func isFar(n int64) bool { return n >= -farthest && n <= farthest }

func isBranch(x api.Item) bool { return x.Kind == api.ItBranch }

// greatest is how many bytes an item has at most.
func greatest(x api.Item) int64 {
	if x.Kind == api.ItAlign {
		return 1<<x.Align - 1
	}
	return size(x, 0, true)
}

// size is how many bytes an item has that begins at a place.
func size(x api.Item, at int64, long bool) int64 {
	switch {
	case x.Kind == api.ItAlign:
		return padding(-at, x.Align)
	case isBranch(x) && long:
		return longBytes
	case isBranch(x):
		return shortBytes
	}
	return x.Size
}

// padding is what is left of so many bytes behind a power of two.
func padding(n int64, power int) int64 { return n & (1<<power - 1) }

// offsets are where items begin, and where the last one ends.
func offsets(l []api.Item, long []bool) []int64 {
	at := make([]int64, len(l)+1)
	for i, x := range l {
		at[i+1] = at[i] + size(x, at[i], long[i])
	}
	return at
}

// reaches tells whether a branch reaches, which is the item n.
func reaches(x api.Item, n int, at []int64) bool {
	far := at[x.To] + x.Add - at[n]
	return far >= x.Low && far <= x.High
}

// tooFar are the branches that are not long and do not reach.
func tooFar(l []api.Item, long []bool, at []int64) []int {
	var far []int
	for i, x := range l {
		if isBranch(x) && !long[i] && !reaches(x, i, at) {
			far = append(far, i)
		}
	}
	return far
}

// mark makes items long.
func mark(long []bool, l []int) {
	for _, i := range l {
		long[i] = true
	}
}
