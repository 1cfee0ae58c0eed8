package relax_test

import (
	"fmt"
	"slices"
	"testing"

	"cooper/api"
	"cooper/relax"
)

// The document's rules, written down a second time, in other ways: with its numbers, and each counted anew from what it is told by.

// ruledItem tells whether an item may be one of so many, and how many bytes it counts for at most.
func ruledItem(x api.Item, many int) (int64, bool) {
	far := func(n int64) bool { return max(n, -n) <= 1073741824 && n != -n || n == 0 }
	switch y := x; x.Kind {
	case 1:
		y.Size = 0
		return x.Size, y == api.Item{Kind: 1} && x.Size == min(max(x.Size, 0), 67108864)
	case 2:
		y.Align = 0
		if y != (api.Item{Kind: 2}) || !slices.Contains([]int{0, 1, 2, 3, 4, 5, 6, 7, 8, 9, 10, 11, 12}, x.Align) {
			return 0, false
		}
		most := int64(1)
		for range x.Align {
			most *= 2
		}
		return most - 1, true
	case 3:
		y.To, y.Add, y.Low, y.High = 0, 0, 0, 0
		return 8, y == api.Item{Kind: 3} && x.To >= 0 && x.To < many+1 && far(x.Add) && far(x.Low) && far(x.High)
	}
	return 0, false
}

// ruledCheck is what Check says.
func ruledCheck(l []api.Item) api.Errno {
	if len(l) >= 65537 {
		return 3
	}
	left := int64(67108864)
	for _, x := range l {
		most, is := ruledItem(x, len(l))
		if !is {
			return 160
		}
		left -= most
	}
	if left < 0 {
		return 161
	}
	return 0
}

// ruledOffsets is what Offsets says: alignments are filled byte by byte.
func ruledOffsets(l []api.Item, long []bool) ([]int64, api.Errno) {
	if e := ruledCheck(l); e != 0 {
		return nil, e
	}
	if len(long) != len(l) {
		return nil, 1
	}
	all := []int64{0}
	at := int64(0)
	for i, x := range l {
		switch x.Kind {
		case 1:
			at += x.Size
		case 2:
			for at%(1<<x.Align) > 0 {
				at++
			}
		case 3:
			at += 4
			if long[i] {
				at += 4
			}
		}
		all = append(all, at)
	}
	return all, 0
}

// ruledReaches is what Reaches says.
func ruledReaches(l []api.Item, long []bool, n int) bool {
	at, e := ruledOffsets(l, long)
	if e != 0 || n < 0 || n >= len(l) || l[n].Kind != 3 {
		return false
	}
	far := at[l[n].To] - at[n] + l[n].Add
	// Neither is negative.
	return (far-l[n].Low)|(l[n].High-far) >= 0
}

// ruledRound is what Round says: of places that are reckoned once.
func ruledRound(l []api.Item, long []bool) ([]bool, int, api.Errno) {
	at, e := ruledOffsets(l, long)
	if e != 0 {
		return nil, 0, e
	}
	var all []bool
	more := 0
	for i, x := range l {
		now := x.Kind == 3
		if now && !long[i] {
			far := at[x.To] - at[i] + x.Add
			if now = far < x.Low || far > x.High; now {
				more++
			}
		}
		all = append(all, now)
	}
	return all, more, 0
}

// ruledFits is what Fits says.
func ruledFits(l []api.Item, long []bool) bool {
	_, e := ruledOffsets(l, long)
	for i, x := range l {
		if e != 0 || x.Kind == 3 && !long[i] && !ruledReaches(l, long, i) {
			return false
		}
	}
	return e == 0
}

// ruledRounds are what all rounds make of it, and how many of them make some long.
func ruledRounds(l []api.Item) ([][]bool, int, api.Errno) {
	var all [][]bool
	long := make([]bool, len(l))
	for {
		now, more, e := ruledRound(l, long)
		if e != 0 {
			return nil, 0, e
		}
		long = now
		all = append(all, long)
		if more == 0 {
			return all, len(all) - 1, 0
		}
	}
}

// text is a list, a few items of which stand for a great one.
func text(l []api.Item) string {
	if len(l) > 60 {
		return fmt.Sprintf("%+v.. (%d items)", l[:60], len(l))
	}
	return fmt.Sprintf("%+v", l)
}

// asked asks everything of items, some of which are long, and holds it against the rules.
func asked(t *testing.T, l []api.Item, long []bool) {
	t.Helper()
	was, wasLong := slices.Clone(l), slices.Clone(long)
	if got, want := relax.Check(l...), ruledCheck(l); got != want {
		t.Fatalf("Check of %s: %d, not %d", text(l), got, want)
	}
	at, e := relax.Offsets(l, long)
	if want, wrong := ruledOffsets(l, long); e != wrong || !slices.Equal(at, want) {
		t.Fatalf("Offsets of %s, %t: %d, %d, not %d, %d", text(l), long, at, e, want, wrong)
	}
	for n := -2; n < len(l)+2; n++ {
		if got, want := relax.Reaches(l, long, n), ruledReaches(l, long, n); got != want {
			t.Fatalf("Reaches of %s, %t, %d: %t", text(l), long, n, got)
		}
	}
	now, more, e := relax.Round(l, long)
	if want, count, wrong := ruledRound(l, long); e != wrong || more != count || !slices.Equal(now, want) {
		t.Fatalf("Round of %s, %t: %t, %d, %d, not %t, %d, %d", text(l), long, now, more, e, want, count, wrong)
	}
	if got, want := relax.Fits(l, long), ruledFits(l, long); got != want {
		t.Fatalf("Fits of %s, %t: %t", text(l), long, got)
	}
	relaxed(t, l)
	if !slices.Equal(l, was) || !slices.Equal(long, wasLong) {
		t.Fatalf("what was handed in is now %s, %t, not %s, %t", text(l), long, text(was), wasLong)
	}
}

// relaxed goes through all rounds of items, and holds them against the rules, and against what follows from these; it tells how many there are.
func relaxed(t *testing.T, l []api.Item) int {
	t.Helper()
	wants, count, wrong := ruledRounds(l)
	long, rounds, e := relax.Relax(l...)
	if e != wrong || rounds != count || e == 0 && !slices.Equal(long, wants[len(wants)-1]) || e != 0 && long != nil {
		t.Fatalf("Relax of %s: %t, %d, %d, not %d rounds, %d", text(l), long, rounds, e, count, wrong)
	}
	i := 0
	for got := range relax.Rounds(l...) {
		if i >= len(wants) || !slices.Equal(got, wants[i]) {
			t.Fatalf("Rounds of %s: %t as number %d of %d", text(l), got, i, len(wants))
		}
		i++
	}
	if i != len(wants) {
		t.Fatalf("Rounds of %s: %d, not %d", text(l), i, len(wants))
	}
	if e == 0 {
		follows(t, l, wants)
	}
	return rounds
}

// follows holds rounds against P16.4, and what is long then against P16.6.
func follows(t *testing.T, l []api.Item, rounds [][]bool) {
	t.Helper()
	all := make([]bool, len(l))
	branches := 0
	for i, x := range l {
		if all[i] = x.Kind == api.ItBranch; all[i] {
			branches++
		}
	}
	if !relax.Fits(l, all) || !relax.Fits(l, rounds[len(rounds)-1]) || len(rounds)-1 > branches {
		t.Fatalf("%s: all long, or %t after %d rounds, does not fit", text(l), rounds[len(rounds)-1], len(rounds)-1)
	}
	for i := range rounds[1:] {
		if !within(rounds[i], rounds[i+1]) {
			t.Fatalf("Rounds of %s: %t, then %t", text(l), rounds[i], rounds[i+1])
		}
	}
}

// within tells whether all that is long is long in another one, too.
func within(long, other []bool) bool {
	for i, is := range long {
		if is && !other[i] {
			return false
		}
	}
	return true
}
