package relax_test

import (
	"math"
	"slices"
	"testing"
	"time"

	"cooper/api"
	"cooper/relax"
)

func raw(size int64) api.Item { return api.Item{Kind: api.ItBytes, Size: size} }

func align(power int) api.Item { return api.Item{Kind: api.ItAlign, Align: power} }

// branch leads to an item, from low to high.
func branch(to int, low, high int64) api.Item {
	return api.Item{Kind: api.ItBranch, To: to, Low: low, High: high}
}

// none are as many that are not long as there are items.
func none(l []api.Item) []bool { return make([]bool, len(l)) }

// P16.1: which items may be: each field of each kind, at its limits and beyond.
func TestCheckItem(t *testing.T) {
	far := int64(1) << 30
	for _, c := range []struct {
		x    api.Item
		want api.Errno
	}{
		{raw(0), api.OK}, {raw(1), api.OK}, {raw(1 << 26), api.OK}, {raw(1<<26 + 1), api.ErrItem}, {raw(-1), api.ErrItem}, {raw(math.MaxInt64), api.ErrItem}, {raw(math.MinInt64), api.ErrItem},
		{align(0), api.OK}, {align(1), api.OK}, {align(12), api.OK}, {align(13), api.ErrItem}, {align(-1), api.ErrItem}, {align(64), api.ErrItem}, {align(math.MaxInt), api.ErrItem}, {align(math.MinInt), api.ErrItem},
		{branch(0, 0, 0), api.OK}, {branch(1, 0, 0), api.OK}, {branch(2, 0, 0), api.ErrItem}, {branch(-1, 0, 0), api.ErrItem}, {branch(math.MaxInt, 0, 0), api.ErrItem}, {branch(math.MinInt, 0, 0), api.ErrItem},
		{branch(0, -far, far), api.OK}, {branch(0, far, -far), api.OK}, {branch(0, -far-1, 0), api.ErrItem}, {branch(0, far+1, 0), api.ErrItem}, {branch(0, 0, -far-1), api.ErrItem}, {branch(0, 0, far+1), api.ErrItem},
		{branch(0, math.MinInt64, 0), api.ErrItem}, {branch(0, 0, math.MaxInt64), api.ErrItem},
		{api.Item{Kind: api.ItBranch, Add: far}, api.OK}, {api.Item{Kind: api.ItBranch, Add: -far}, api.OK}, {api.Item{Kind: api.ItBranch, Add: far + 1}, api.ErrItem}, {api.Item{Kind: api.ItBranch, Add: -far - 1}, api.ErrItem},
		{api.Item{Kind: api.ItBranch, Add: math.MinInt64}, api.ErrItem},
		{api.Item{}, api.ErrItem}, {api.Item{Kind: 4}, api.ErrItem}, {api.Item{Kind: -1}, api.ErrItem}, {api.Item{Kind: math.MaxInt}, api.ErrItem}, {api.Item{Kind: math.MinInt}, api.ErrItem},
	} {
		if got := relax.Check(c.x); got != c.want {
			t.Errorf("Check of %+v: %d, not %d", c.x, got, c.want)
		}
		asked(t, []api.Item{c.x}, []bool{true})
	}
}

// P16.1: a field that a kind does not use is 0.
func TestCheckFields(t *testing.T) {
	// Of each kind the fields that it uses, bit by bit in the order of api.Item.
	uses := map[int]int{api.ItBytes: 0b1, api.ItAlign: 0b10, api.ItBranch: 0b111100}
	for kind := -1; kind < 6; kind++ {
		for fields := range 1 << 6 {
			bit := func(n int) int { return fields >> n & 1 }
			x := api.Item{Kind: kind, Size: int64(bit(0)), Align: bit(1), To: bit(2), Add: int64(bit(3)), Low: int64(bit(4)), High: int64(bit(5))}
			want := api.OK
			if used, is := uses[kind]; !is || fields&^used != 0 {
				want = api.ErrItem
			}
			if got := relax.Check(x); got != want {
				t.Errorf("Check of %+v: %d, not %d", x, got, want)
			}
		}
	}
}

// P16.1: how many there may be, how many bytes, and which error is named first.
func TestCheckAll(t *testing.T) {
	many := func(n int, x api.Item, more ...api.Item) []api.Item {
		return append(slices.Repeat([]api.Item{x}, n), more...)
	}
	for _, c := range []struct {
		name string
		l    []api.Item
		want api.Errno
	}{
		{"none", nil, api.OK},
		{"as many as may be", many(1<<16, raw(0)), api.OK},
		{"one more", many(1<<16+1, raw(0)), api.ErrLong},
		{"one more, one of which may not be", many(1<<16, raw(0), api.Item{}), api.ErrLong},
		{"as many bytes as may be", many(64, raw(1<<20)), api.OK},
		{"a byte more", many(64, raw(1<<20), raw(1)), api.ErrSize},
		{"twice all", many(2, raw(1<<26)), api.ErrSize},
		{"all of all", many(1<<16, raw(1<<26)), api.ErrSize},
		{"an alignment of none", many(1, raw(1<<26), align(0)), api.OK},
		{"an alignment of one", many(1, raw(1<<26), align(1)), api.ErrSize},
		{"an alignment that is full", many(1, raw(1<<26-4095), align(12)), api.OK},
		{"an alignment that is more", many(1, raw(1<<26-4094), align(12)), api.ErrSize},
		{"an alignment that takes nothing", many(1, align(3), raw(1<<26-7)), api.OK},
		{"an alignment that takes nothing, and is more", many(1, align(3), raw(1<<26-6)), api.ErrSize},
		{"alignments", many(1<<14+4, align(12)), api.OK},
		{"alignments, one more", many(1<<14+5, align(12)), api.ErrSize},
		{"a branch", many(1, raw(1<<26-8), branch(2, 0, 0)), api.OK},
		{"a branch that may be long", many(1, raw(1<<26-7), branch(2, 0, 0)), api.ErrSize},
		{"branches", many(1<<16-1, branch(0, 0, 0), raw(1<<26-8*(1<<16-1))), api.OK},
		{"branches, a byte more", many(1<<16-1, branch(0, 0, 0), raw(1<<26-8*(1<<16-1)+1)), api.ErrSize},
		{"too much, and then one that may not be", many(3, raw(1<<26), align(13)), api.ErrItem},
		{"one that may not be, and too much", append([]api.Item{{}}, many(3, raw(1<<26))...), api.ErrItem},
		{"behind the end", many(3, raw(0), branch(4, 0, 0)), api.OK},
		{"behind all", many(3, raw(0), branch(5, 0, 0)), api.ErrItem},
	} {
		if got := relax.Check(c.l...); got != c.want || got != ruledCheck(c.l) {
			t.Errorf("Check of %s: %d, not %d", c.name, got, c.want)
		}
		if at, e := relax.Offsets(c.l, none(c.l)); e != c.want || (at == nil) != (e != api.OK) {
			t.Errorf("Offsets of %s: %d", c.name, e)
		}
		// Without as many of long Check's errors count first.
		want := c.want
		if want == api.OK {
			want = api.ErrArg
		}
		if at, e := relax.Offsets(c.l, make([]bool, len(c.l)+1)); e != want || at != nil {
			t.Errorf("Offsets of %s and one more: %d", c.name, e)
		}
		if now, more, e := relax.Round(c.l, make([]bool, len(c.l)+1)); e != want || more != 0 || now != nil {
			t.Errorf("Round of %s and one more: %d", c.name, e)
		}
	}
}

// P16.2: where items begin.
func TestOffsets(t *testing.T) {
	for _, c := range []struct {
		l    []api.Item
		long []bool
		want []int64
	}{
		{nil, nil, []int64{0}},
		{[]api.Item{raw(0)}, []bool{false}, []int64{0, 0}},
		{[]api.Item{raw(3), raw(0), raw(7)}, []bool{false, true, false}, []int64{0, 3, 3, 10}},
		{[]api.Item{raw(3), raw(5)}, []bool{true, true}, []int64{0, 3, 8}},
		{[]api.Item{branch(1, -8, 8), raw(20)}, []bool{false, false}, []int64{0, 4, 24}},
		{[]api.Item{branch(1, -8, 8), raw(20)}, []bool{true, false}, []int64{0, 8, 28}},
		{[]api.Item{align(0), raw(1), align(0), align(1), align(1), align(12), align(3)}, make([]bool, 7), []int64{0, 0, 1, 1, 2, 2, 4096, 4096}},
		{[]api.Item{align(12), raw(4095), align(12), raw(1), align(12), raw(4096), align(12)}, []bool{true, true, true, true, true, true, true}, []int64{0, 0, 4095, 4096, 4097, 8192, 12288, 12288}},
		{[]api.Item{raw(5), align(2), branch(0, 0, 0), align(3), branch(0, 0, 0), align(3)}, []bool{false, false, false, true, true, false}, []int64{0, 5, 8, 12, 16, 24, 24}},
	} {
		got, e := relax.Offsets(c.l, c.long)
		if e != api.OK || !slices.Equal(got, c.want) {
			t.Errorf("Offsets of %+v, %t: %d, %d, not %d", c.l, c.long, got, e, c.want)
		}
		asked(t, c.l, c.long)
	}
	for _, n := range []int{0, 1, 3, 100} {
		l := []api.Item{raw(3), branch(0, 1, 2)}
		if got, e := relax.Offsets(l, make([]bool, n)); got != nil || e != api.ErrArg {
			t.Errorf("Offsets of two with %d: %d, %d", n, got, e)
		}
		asked(t, l, make([]bool, n))
	}
	if got, e := relax.Offsets(nil, []bool{true}); got != nil || e != api.ErrArg {
		t.Errorf("Offsets of none with one: %d, %d", got, e)
	}
}

// P16.2: which distances are reached: forward, backward, from itself, to the end; with more; at both limits.
func TestReaches(t *testing.T) {
	first := []api.Item{{}, raw(7), align(3)}
	middle := []api.Item{raw(10), {}, raw(7)}
	last := []api.Item{raw(7), align(3), {}}
	for _, c := range []struct {
		l     []api.Item
		at    int
		to    int
		short int64
		long  int64
	}{
		{first, 0, 0, 0, 0}, {first, 0, 1, 4, 8}, {first, 0, 2, 11, 15}, {first, 0, 3, 16, 16},
		{middle, 1, 0, -10, -10}, {middle, 1, 1, 0, 0}, {middle, 1, 2, 4, 8}, {middle, 1, 3, 11, 15},
		{last, 2, 0, -8, -8}, {last, 2, 1, -1, -1}, {last, 2, 2, 0, 0}, {last, 2, 3, 4, 8},
	} {
		for _, add := range []int64{0, 1, -1, 4, -100, 1 << 29, -1 << 29} {
			for _, long := range []bool{false, true} {
				far := c.short + add
				if long {
					far = c.long + add
				}
				for _, x := range []struct {
					low, high int64
					want      bool
				}{
					{far, far, true}, {far - 1, far + 1, true}, {far - 1, far, true}, {far, far + 1, true}, {-1 << 30, 1 << 30, true}, {far, 1 << 30, true}, {-1 << 30, far, true},
					{far + 1, far + 1, false}, {far - 1, far - 1, false}, {far + 1, far - 1, false}, {far + 1, far, false}, {far, far - 1, false}, {far + 1, 1 << 30, false}, {-1 << 30, far - 1, false},
				} {
					l := slices.Clone(c.l)
					l[c.at] = api.Item{Kind: api.ItBranch, To: c.to, Add: add, Low: x.low, High: x.high}
					is := none(l)
					is[c.at] = long
					if got := relax.Reaches(l, is, c.at); got != x.want {
						t.Errorf("Reaches of %+v, %t, %d: %t", l, is, c.at, got)
					}
					asked(t, l, is)
				}
			}
		}
	}
}

// P16.2, P16.3: what is no branch, what there is not, and what Offsets refuses, does not reach; what is refused does not fit.
func TestReachesNot(t *testing.T) {
	far := branch(0, -1<<30, 1<<30)
	l := []api.Item{far, raw(4), align(2), far}
	for n, want := range map[int]bool{-1: false, 0: true, 1: false, 2: false, 3: true, 4: false, 5: false, math.MaxInt: false, math.MinInt: false} {
		if got := relax.Reaches(l, none(l), n); got != want {
			t.Errorf("Reaches of %d: %t", n, got)
		}
	}
	if relax.Reaches(nil, nil, 0) || relax.Reaches(l, none(l)[:3], 0) || relax.Reaches(l, nil, 0) || relax.Reaches(l, make([]bool, 5), 0) {
		t.Error("Reaches with other than as many of long")
	}
	if !relax.Fits(nil, nil) || !relax.Fits(l, none(l)) || relax.Fits(l, none(l)[:3]) || relax.Fits(l, nil) || relax.Fits(l, make([]bool, 5)) || relax.Fits(nil, []bool{false}) {
		t.Error("Fits with other than as many of long")
	}
	for _, x := range []api.Item{{}, align(13), raw(1 << 26)} {
		bad := append(slices.Clone(l), x)
		if relax.Reaches(bad, none(bad), 0) || relax.Fits(bad, none(bad)) {
			t.Errorf("Reaches, or Fits, with %+v", x)
		}
		asked(t, bad, none(bad))
	}
}

// P16.2: what becomes long in a round: as things are, not as they are when others have become so.
func TestRound(t *testing.T) {
	l := []api.Item{branch(2, -8, 8), branch(3, -8, 8), branch(3, -3, 3), raw(4)}
	for _, c := range []struct {
		long []bool
		want []bool
		more int
	}{
		{[]bool{false, false, false, false}, []bool{false, false, true, false}, 1},
		{[]bool{false, false, true, false}, []bool{false, true, true, false}, 1},
		{[]bool{false, true, true, false}, []bool{true, true, true, false}, 1},
		{[]bool{true, true, true, false}, []bool{true, true, true, false}, 0},
		{[]bool{false, true, false, false}, []bool{true, true, true, false}, 2},
		{[]bool{false, false, false, true}, []bool{false, false, true, false}, 1},
		{[]bool{true, true, true, true}, []bool{true, true, true, false}, 0},
		{[]bool{true, false, false, false}, []bool{true, false, true, false}, 1},
	} {
		now, more, e := relax.Round(l, c.long)
		if e != api.OK || more != c.more || !slices.Equal(now, c.want) {
			t.Errorf("Round of %t: %t, %d, %d", c.long, now, more, e)
		}
		asked(t, l, c.long)
	}
	// A long one stays so, though it reaches.
	near := []api.Item{branch(1, 0, 100), align(4), raw(1)}
	now, more, e := relax.Round(near, []bool{true, true, true})
	if e != api.OK || more != 0 || !slices.Equal(now, []bool{true, false, false}) {
		t.Errorf("Round of one that reaches: %t, %d, %d", now, more, e)
	}
	if now, more, e := relax.Round(nil, nil); len(now) != 0 || more != 0 || e != api.OK {
		t.Errorf("Round of none: %t, %d, %d", now, more, e)
	}
}

// P16.3: the document's example, and others.
func TestRelax(t *testing.T) {
	for _, c := range []struct {
		name   string
		l      []api.Item
		want   []bool
		rounds int
	}{
		{"none", nil, nil, 0},
		{"no branch", []api.Item{raw(5), align(3)}, []bool{false, false}, 0},
		{"the document's", []api.Item{branch(2, -8, 8), raw(20)}, []bool{true, false}, 1},
		{"one that reaches", []api.Item{branch(2, -24, 24), raw(20)}, []bool{false, false}, 0},
		{"one that does not by a byte", []api.Item{branch(2, -23, 23), raw(20)}, []bool{true, false}, 1},
		{"one that never does", []api.Item{branch(0, 1, 0)}, []bool{true}, 1},
		{"one that is too near", []api.Item{branch(1, 5, 100)}, []bool{true}, 1},
		{"one to itself", []api.Item{branch(0, 0, 0), branch(1, 0, 0)}, []bool{false, false}, 0},
		{"one by one", []api.Item{branch(2, 0, 8), branch(3, 0, 8), branch(4, 0, 8), branch(4, 0, 3)}, []bool{true, true, true, true}, 4},
		{"one by one, back", []api.Item{branch(0, 1, 1), branch(0, -4, 0), branch(1, -4, 0), branch(2, -4, 0), branch(3, -4, 0)}, []bool{true, true, true, true, true}, 5},
		{"both at once", []api.Item{branch(0, 1, 1), branch(0, -4, 0), branch(0, -8, 0), branch(2, -4, 0), branch(3, -4, 0)}, []bool{true, true, true, true, true}, 4},
		{"an alignment that takes what is more", []api.Item{branch(0, 1, 1), branch(3, 0, 12), align(4), raw(1)}, []bool{true, false, false, false}, 1},
		{"an alignment that makes it nearer", []api.Item{branch(0, 1, 1), branch(3, 9, 12), align(4), raw(1)}, []bool{true, true, false, false}, 2},
		{"an alignment that makes it farther", []api.Item{align(4), branch(1, 1, 1), raw(8), branch(5, 0, 4), align(4)}, []bool{false, true, false, true, false}, 2},
	} {
		long, rounds, e := relax.Relax(c.l...)
		if e != api.OK || rounds != c.rounds || !slices.Equal(long, c.want) {
			t.Errorf("Relax of %s: %t, %d, %d, not %t, %d", c.name, long, rounds, e, c.want, c.rounds)
		}
		asked(t, c.l, none(c.l))
	}
	l := []api.Item{branch(2, -8, 8), raw(20)}
	long, _, _ := relax.Relax(l...)
	if at, e := relax.Offsets(l, long); e != api.OK || !slices.Equal(at, []int64{0, 8, 28}) {
		t.Errorf("Offsets of the document's: %d, %d", at, e)
	}
	for e, bad := range map[api.Errno][]api.Item{api.ErrItem: {raw(1), {}}, api.ErrSize: {raw(1), raw(1 << 26)}, api.ErrLong: make([]api.Item, 1<<16+1)} {
		if long, rounds, got := relax.Relax(bad...); got != e || rounds != 0 || long != nil {
			t.Errorf("Relax: %t, %d, %d, not %d", long, rounds, got, e)
		}
		for long := range relax.Rounds(bad...) {
			t.Errorf("Rounds: %t, of what Check refuses by %d", long, e)
		}
	}
}

// P16.3: all rounds, the last one, too; stopped at any one, and gone through again.
func TestRounds(t *testing.T) {
	l := []api.Item{branch(2, 0, 8), branch(4, 0, 9), raw(1), branch(3, 1, 1), align(1)}
	wants := [][]bool{{false, false, false, true, false}, {false, true, false, true, false}, {true, true, false, true, false}, {true, true, false, true, false}}
	all := relax.Rounds(l...)
	// What was there when it was asked for is told.
	clear(l)
	for stop := range len(wants) + 2 {
		var got [][]bool
		for long := range all {
			if len(got) == stop {
				break
			}
			got = append(got, slices.Clone(long))
			// What is told is the caller's.
			for i := range long {
				long[i] = !long[i]
			}
		}
		if want := wants[:min(stop, len(wants))]; !slices.EqualFunc(got, want, func(a, b []bool) bool { return slices.Equal(a, b) }) {
			t.Errorf("Rounds up to %d: %t, not %t", stop, got, want)
		}
	}
	count := 0
	for long := range relax.Rounds() {
		if count++; len(long) != 0 {
			t.Errorf("Rounds of none: %t", long)
		}
	}
	if count != 1 {
		t.Errorf("Rounds of none: %d", count)
	}
}

// P16.3: two at once do not disturb each other.
func TestRoundsWithin(t *testing.T) {
	l := ladder(40)
	all := relax.Rounds(l...)
	wants, _, _ := ruledRounds(l)
	i := 0
	for outer := range all {
		j := 0
		for inner := range all {
			if !slices.Equal(inner, wants[j]) {
				t.Fatalf("round %d within round %d: %t", j, i, inner)
			}
			j++
		}
		if !slices.Equal(outer, wants[i]) || j != len(wants) {
			t.Fatalf("round %d: %t, and %d within", i, outer, j)
		}
		i++
	}
	if i != len(wants) || i != 41 {
		t.Fatalf("%d rounds", i)
	}
}

// What is handed in stays as it is, and what is answered is nobody else's.
func TestMemory(t *testing.T) {
	l := []api.Item{branch(2, -8, 8), raw(20), branch(0, -100, 100)}
	long := []bool{false, true, true}
	was, wasLong := slices.Clone(l), slices.Clone(long)
	now, _, _ := relax.Round(l, long)
	at, _ := relax.Offsets(l, long)
	again, _ := relax.Offsets(l, long)
	all, _, _ := relax.Relax(l...)
	for i := range now {
		now[i], all[i], at[i] = !now[i], !all[i], -1
	}
	if !slices.Equal(l, was) || !slices.Equal(long, wasLong) || again[0] != 0 {
		t.Errorf("%+v, %t, %d", l, long, again)
	}
	if now, more, _ := relax.Round(l, long); more != 1 || !slices.Equal(now, []bool{true, false, true}) {
		t.Errorf("Round, again: %t, %d", now, more)
	}
}

// ladder is branches that become long one by one, from the last one on.
func ladder(n int) []api.Item {
	var l []api.Item
	for i := range n {
		l = append(l, branch(min(i+2, n), -8, 8))
	}
	l[n-1].High = 3
	return l
}

// steps are as many items as may be, of which each but some becomes long in a round of its own.
func steps() map[string][]api.Item {
	n := 1 << 16
	r := random()
	down, over, within := make([]api.Item, n), make([]api.Item, n), make([]api.Item, n)
	for i := range n {
		down[i] = branch(max(i-1, 0), -4, 8)
	}
	down[0].High = -1
	// Each leads over the next one and as many behind it as it may be.
	for i := range n - 1 {
		to := i + 2 + r.IntN(n-i-1)
		over[i] = branch(to, -1<<30, int64(8*(to-i-1)))
	}
	over[n-1] = branch(n, 0, 3)
	// Each leads over all that are within it, and the ones behind those.
	for i := range n / 2 {
		within[i], within[n-1-i] = branch(n-i, 0, int64(8*(n/2-1-i)+4*(n/2-i))), raw(4)
	}
	within[n/2-1].High = 3
	return map[string][]api.Item{
		"up": ladder(n), "down": down, "over": over, "within": within,
		"ahead of alignments": append(ladder(n/2), slices.Repeat([]api.Item{align(3)}, n/2)...),
	}
}

// As many rounds as there are branches take a few steps of each (all of this a second or so, where it would be minutes if each round went through all items).
func TestMuch(t *testing.T) {
	began := time.Now()
	for name, l := range steps() {
		want := none(l)
		branches := 0
		for i, x := range l {
			if x.Kind == api.ItBranch {
				want[i] = true
				branches++
			}
		}
		long, rounds, e := relax.Relax(l...)
		if e != api.OK || rounds != branches || !slices.Equal(long, want) || !relax.Fits(l, long) {
			t.Errorf("Relax %s: %d rounds, %d", name, rounds, e)
		}
	}
	if took := time.Since(began); took > 20*time.Second {
		t.Errorf("it took %v", took)
	}
}
