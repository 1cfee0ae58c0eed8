package relax_test

import (
	"math"
	"math/rand/v2"
	"slices"
	"testing"

	"cooper/api"
	"cooper/relax"
)

func random() *rand.Rand { return rand.New(rand.NewPCG(16, 1)) }

func one[T any](r *rand.Rand, l ...T) T { return l[r.IntN(len(l))] }

// wildFar is a number that may be no distance.
func wildFar(r *rand.Rand) int64 {
	return one(r, 0, 0, 0, 1, -1, r.Int64N(200)-100, 1<<30, -1<<30, 1<<30+1, -1<<30-1, r.Int64(), math.MinInt64, math.MaxInt64)
}

// wildItem is an item that may be none.
func wildItem(r *rand.Rand, many int) api.Item {
	x := api.Item{Kind: one(r, 1, 2, 3, 1, 2, 3, 1, 2, 3, 0, 4, -1)}
	other := r.IntN(30) == 0
	if x.Kind == api.ItBytes || other {
		x.Size = one(r, 0, 1, 4, r.Int64N(100), 1<<26, 1<<26+1, -1, r.Int64(), 1<<25, 1<<24)
	}
	if x.Kind == api.ItAlign || other {
		x.Align = one(r, r.IntN(13), r.IntN(13), r.IntN(13), 13, -1, 64, math.MaxInt)
	}
	if x.Kind == api.ItBranch || other {
		x.To = one(r, r.IntN(many+1), r.IntN(many+1), r.IntN(many+1), r.IntN(many+1), many, many+1, -1, math.MaxInt)
		x.Add, x.Low, x.High = wildFar(r), wildFar(r), wildFar(r)
	}
	return x
}

// wildLong is as many as items, mostly.
func wildLong(r *rand.Rand, many int) []bool {
	if r.IntN(20) == 0 {
		many = r.IntN(many + 3)
	}
	var l []bool
	for range many {
		l = append(l, r.IntN(3) == 0)
	}
	return l
}

// P16.1, P16.2, P16.3: drawn items, of which most may not be.
func TestWildDrawn(t *testing.T) {
	r := random()
	for range 60000 {
		var l []api.Item
		many := r.IntN(one(r, 2, 4, 12))
		for range many {
			l = append(l, wildItem(r, many))
		}
		asked(t, l, wildLong(r, many))
	}
}

// shape is what is drawn of items.
type shape struct {
	many   int
	aligns int // of 16 items
	powers int // how many
	near   int // how many items a branch leads over at most
	room   int // how many bytes more or fewer it still reaches
	add    int64
}

func drawnShape(r *rand.Rand) shape {
	many := 1 + r.IntN(one(r, 8, 30, 60, 120))
	return shape{many: many, aligns: one(r, 0, 0, 1, 2, 6), powers: 1 + r.IntN(13), near: 1 + r.IntN(one(r, 3, many+1)), room: 1 + r.IntN(one(r, 1, 5, 9, 60, 300)), add: one[int64](r, 0, 0, 1, 50)}
}

// drawnItems are items of which the branches reach, but not by much; some few do not.
func drawnItems(r *rand.Rand, s shape) []api.Item {
	l := make([]api.Item, s.many)
	for i := range l {
		switch k := r.IntN(16); {
		case k < s.aligns:
			l[i] = align(r.IntN(s.powers))
		case k == 15:
			l[i] = raw(r.Int64N(40))
		default:
			l[i] = branch(min(max(i+r.IntN(2*s.near+1)-s.near, 0), s.many), 0, 0)
		}
	}
	at, _ := relax.Offsets(l, none(l))
	for i, x := range l {
		if x.Kind != api.ItBranch {
			continue
		}
		x.Add = r.Int64N(2*s.add+1) - s.add
		far := at[x.To] - at[i] + x.Add
		x.Low, x.High = far-int64(r.IntN(s.room)), far+int64(r.IntN(s.room))
		switch r.IntN(4 * s.many) {
		case 0, 1, 2, 3:
			x.High = far - 1
		case 4:
			x.Low = far + 1
		}
		l[i] = x
	}
	return l
}

// stepped is items with a ladder before them, or behind them, or between: whatever else there is, so many rounds have a branch that becomes long.
func stepped(r *rand.Rand, l []api.Item, steps int) []api.Item {
	at := one(r, 0, len(l), r.IntN(len(l)+1))
	all := slices.Clone(l)
	for i, x := range all {
		if x.Kind == api.ItBranch && x.To > at {
			all[i].To += steps
		}
		// What leads over all of the ladder has room for it, or for some of it.
		if x.Kind == api.ItBranch && (x.To > at) != (i >= at) {
			more := 4*int64(steps) + 4*r.Int64N(int64(steps)+1)
			if x.To > at {
				all[i].High, all[i].Low = x.High+more, x.Low+4*int64(steps)
			} else {
				all[i].Low, all[i].High = x.Low-more, x.High-4*int64(steps)
			}
		}
	}
	rungs := ladder(steps)
	for i := range rungs {
		rungs[i].To += at
	}
	return slices.Insert(all, at, rungs...)
}

// P16.2, P16.3, P16.4: drawn items, all rounds of them.
func TestItemsDrawn(t *testing.T) {
	r := random()
	counts := map[int]int{}
	for range 20000 {
		l := drawnItems(r, drawnShape(r))
		if r.IntN(3) == 0 {
			l = stepped(r, l, 1+r.IntN(40))
		}
		if relax.Check(l...) != api.OK {
			t.Fatalf("%s may not be", text(l))
		}
		if r.IntN(4) == 0 {
			asked(t, l, wildLong(r, len(l)))
		}
		counts[min(relaxed(t, l), 20)]++
	}
	if len(counts) < 21 || counts[20] < 1000 {
		t.Errorf("rounds: %d", counts)
	}
}

// P16.2, P16.3: all lists of up to three of these, whichever are long.
func TestItemsShort(t *testing.T) {
	all := []api.Item{raw(0), raw(4), align(0), align(3)}
	for to := range 4 {
		all = append(all, branch(to, 0, 4), branch(to, -4, 4), branch(to, -8, 8), branch(to, 1, 0))
	}
	var each func(l []api.Item, left int)
	each = func(l []api.Item, left int) {
		for some := range 1 << len(l) {
			long := none(l)
			for i := range long {
				long[i] = some>>i&1 == 1
			}
			asked(t, l, long)
		}
		if left > 0 {
			for _, x := range all {
				each(append(l[:len(l):len(l)], x), left-1)
			}
		}
	}
	each(nil, 3)
}

// plainItems are items without alignments, and branches that reach from at most 0 to at least 0, with nothing more.
func plainItems(r *rand.Rand, most int) []api.Item {
	many := 1 + r.IntN(most)
	near := 1 + r.IntN(many+1)
	var l []api.Item
	for i := range many {
		if r.IntN(5) == 0 {
			l = append(l, raw(r.Int64N(20)))
			continue
		}
		l = append(l, branch(min(max(i+r.IntN(2*near+1)-near, 0), many), -r.Int64N(int64(near)*8+1), r.Int64N(int64(near)*8+1)))
	}
	return l
}

// P16.5: whatever else fits has all of it long, too.
func TestLeast(t *testing.T) {
	r := random()
	for range 3000 {
		l := plainItems(r, 9)
		least, _, _ := relax.Relax(l...)
		fits := 0
		for some := range 1 << len(l) {
			long := none(l)
			for i := range long {
				long[i] = some>>i&1 == 1
			}
			if !relax.Fits(l, long) {
				continue
			}
			fits++
			if !within(least, long) {
				t.Fatalf("%s: %t fits, without all of %t", text(l), long, least)
			}
		}
		if fits == 0 {
			t.Fatalf("%s: nothing fits", text(l))
		}
	}
}

// P16.6: more bytes make no branch shorter.
func TestMoreBytes(t *testing.T) {
	r := random()
	grew := 0
	for range 20000 {
		l := plainItems(r, 30)
		was, _, _ := relax.Relax(l...)
		more := slices.Clone(l)
		for i, x := range more {
			if x.Kind == api.ItBytes && r.IntN(2) == 0 {
				more[i].Size += r.Int64N(20)
			}
		}
		is, _, e := relax.Relax(more...)
		if e != api.OK || !within(was, is) {
			t.Fatalf("%s: %t, and of %s %t, %d", text(l), was, text(more), is, e)
		}
		if !slices.Equal(was, is) {
			grew++
		}
	}
	if grew < 1000 {
		t.Errorf("only %d grew", grew)
	}
}

// P16.3: drawn items of which one after the other becomes long, many of them beside alignments that take turns.
func TestRoundsMany(t *testing.T) {
	r := random()
	for range 60 {
		s := drawnShape(r)
		s.many, s.aligns, s.near = 800, one(r, 0, 1, 3), 1+r.IntN(800)
		l := stepped(r, drawnItems(r, s), 300)
		if rounds := relaxed(t, l); rounds < 300 {
			t.Fatalf("%s: %d rounds", text(l), rounds)
		}
	}
}
