package bits_test

import (
	"fmt"
	"math"
	"math/big"
	"slices"
	"strings"
	"testing"

	"cooper/api"
	"cooper/bits"
)

// draws is a fixed row of numbers that look like drawn ones.
type draws uint64

func (d *draws) next() uint64 {
	*d += 0x9e3779b97f4a7c15
	z := uint64(*d)
	z = (z ^ z>>30) * 0xbf58476d1ce4e5b9
	z = (z ^ z>>27) * 0x94d049bb133111eb
	return z ^ z>>31
}

// oddWidths are widths, and places, that nothing has.
var oddWidths = []int{math.MinInt, math.MinInt + 1, -1 << 40, -1 << 32, -65, -64, -33, -32, -2, -1, 1 << 31, 1 << 32, 1<<32 + 1, math.MaxInt - 1, math.MaxInt}

// wordFields are all fields that lie in a word.
func wordFields() []api.Field {
	var l []api.Field
	for low := 0; low < 32; low++ {
		for width := 1; low+width <= 32; width++ {
			l = append(l, api.Field{Low: low, Width: width})
		}
	}
	return l
}

// otherFields are fields that do not lie in a word.
func otherFields() []api.Field {
	l := []api.Field{{}, {Low: 31}, {Low: 32}, {Low: 32, Width: 1}, {Low: -1, Width: 1}, {Low: -1, Width: 2}, {Low: 0, Width: 33}, {Low: -1, Width: 33}, {Low: 5, Width: -5}}
	for low := 1; low < 32; low++ {
		l = append(l, api.Field{Low: low, Width: 33 - low}, api.Field{Low: low, Width: 32}, api.Field{Low: low})
	}
	for _, x := range oddWidths {
		l = append(l, api.Field{Low: x, Width: 1}, api.Field{Low: 0, Width: x}, api.Field{Low: x, Width: x}, api.Field{Low: x, Width: -x}, api.Field{Low: 31, Width: x}, api.Field{Low: x, Width: 32})
	}
	return l
}

// someWords are words with edges of all kinds.
func someWords() []uint32 {
	l := []uint32{0, 1, 0x80000000, 0xffffffff, 0x55555555, 0xaaaaaaaa, 0x0000ffff, 0xffff0000, 0x8b020020, 0xd503201f}
	d := draws(1)
	for range 20 {
		l = append(l, uint32(d.next()))
	}
	return l
}

// someNumbers are numbers of at most so many bits, the edges among them.
func someNumbers(width int) []uint64 {
	all := ^uint64(0) >> (64 - width)
	l := []uint64{0, 1, all, all - 1, all / 2, all/2 + 1, 0x5555555555555555 & all, 0xaaaaaaaaaaaaaaaa & all}
	d := draws(width)
	for range 20 {
		l = append(l, d.next()&all)
	}
	return l
}

func bit(v uint64, i int) uint64 { return v >> i & 1 }

// bitsFrom is a field read bit by bit.
func bitsFrom(w uint32, f api.Field) uint32 {
	v := uint32(0)
	for i := 0; i < f.Width; i++ {
		v |= (w >> (f.Low + i) & 1) << i
	}
	return v
}

// P1.1: Get.
func TestGet(t *testing.T) {
	for _, f := range wordFields() {
		for _, w := range someWords() {
			if v, e := bits.Get(w, f); v != bitsFrom(w, f) || e != api.OK {
				t.Fatalf("Get(%#x, %v): %#x, %d", w, f, v, e)
			}
		}
	}
	for _, f := range otherFields() {
		if v, e := bits.Get(0xffffffff, f); v != 0 || e != api.ErrWidth {
			t.Errorf("Get of %v: %#x, %d", f, v, e)
		}
	}
}

// P1.1: Put: the bits become v, a greater v is refused.
func TestPut(t *testing.T) {
	if w, e := bits.Put(0, api.Field{Low: 4, Width: 3}, 5); w != 0x50 || e != api.OK {
		t.Errorf("the document's example: %#x, %d", w, e)
	}
	for _, f := range wordFields() {
		most := uint32(1)<<f.Width - 1
		for _, v := range []uint32{0, 1, most, most / 2} {
			if w, e := bits.Put(0, f, v); w != v<<f.Low || e != api.OK {
				t.Fatalf("Put(0, %v, %#x): %#x, %d", f, v, w, e)
			}
		}
		if f.Width == 32 {
			continue
		}
		for _, v := range []uint32{most + 1, most + 2, 0x80000000, 0xffffffff} {
			if w, e := bits.Put(0xffffffff, f, v); w != 0 || e != api.ErrRange {
				t.Fatalf("Put of %#x into %v: %#x, %d", v, f, w, e)
			}
		}
	}
	for _, f := range otherFields() {
		for _, v := range []uint32{0, 1, 0xffffffff} {
			if w, e := bits.Put(0xffffffff, f, v); w != 0 || e != api.ErrWidth {
				t.Errorf("Put of %#x into %v: %#x, %d", v, f, w, e)
			}
		}
	}
}

// P1.1: Pack: from the left, into base, the first error.
func TestPack(t *testing.T) {
	low, mid, high := api.Field{Low: 0, Width: 5}, api.Field{Low: 4, Width: 8}, api.Field{Low: 16, Width: 16}
	wrong := api.Field{Low: 30, Width: 3}
	for _, c := range []struct {
		base uint32
		l    []api.Field
		v    []uint32
		want uint32
		err  api.Errno
	}{
		{0x12345678, nil, nil, 0x12345678, api.OK},
		{0x12345678, []api.Field{}, []uint32{}, 0x12345678, api.OK},
		{0x8b000000, []api.Field{low}, []uint32{31}, 0x8b00001f, api.OK},
		{0xffffffff, []api.Field{low, high}, []uint32{2, 0x1234}, 0x1234ffe2, api.OK},
		{0, []api.Field{low, mid}, []uint32{31, 0}, 0xf, api.OK},
		{0, []api.Field{mid, low}, []uint32{0, 31}, 0x1f, api.OK},
		{0, []api.Field{low, low, low}, []uint32{31, 16, 3}, 3, api.OK},
		{7, []api.Field{low}, nil, 0, api.ErrArg},
		{7, nil, []uint32{1}, 0, api.ErrArg},
		{7, []api.Field{low, high}, []uint32{1}, 0, api.ErrArg},
		{7, []api.Field{low}, []uint32{1, 2}, 0, api.ErrArg},
		{7, []api.Field{wrong}, []uint32{1, 2}, 0, api.ErrArg},
		{7, []api.Field{low, high}, []uint32{32}, 0, api.ErrArg},
		{7, []api.Field{low, high}, []uint32{32, 1}, 0, api.ErrRange},
		{7, []api.Field{low, high}, []uint32{1, 0x10000}, 0, api.ErrRange},
		{7, []api.Field{wrong, low}, []uint32{1, 32}, 0, api.ErrWidth},
		{7, []api.Field{low, wrong}, []uint32{32, 1}, 0, api.ErrRange},
		{7, []api.Field{low, wrong}, []uint32{31, 1}, 0, api.ErrWidth},
		{7, []api.Field{wrong}, []uint32{0xffffffff}, 0, api.ErrWidth},
	} {
		l, v := slices.Clone(c.l), slices.Clone(c.v)
		if w, e := bits.Pack(c.base, c.l, c.v...); w != c.want || e != c.err {
			t.Errorf("Pack(%#x, %v, %v): %#x, %d", c.base, c.l, c.v, w, e)
		}
		if !slices.Equal(l, c.l) || !slices.Equal(v, c.v) {
			t.Errorf("Pack wrote to what it was handed: %v, %v", c.l, c.v)
		}
	}
}

// P1.1: Apart: of all pairs, of many, of fields that lie in no word.
func TestApart(t *testing.T) {
	if !bits.Apart() {
		t.Error("no fields are apart")
	}
	l := wordFields()
	for _, f := range l {
		if !bits.Apart(f) {
			t.Fatalf("%v alone", f)
		}
		for _, g := range l {
			want := f.Low+f.Width <= g.Low || g.Low+g.Width <= f.Low
			if bits.Apart(f, g) != want {
				t.Fatalf("Apart(%v, %v) is not %t", f, g, want)
			}
		}
	}
	for _, f := range otherFields() {
		if bits.Apart(f) || bits.Apart(f, api.Field{Low: 3, Width: 2}) || bits.Apart(api.Field{Low: 3, Width: 2}, f) {
			t.Errorf("%v lies in no word", f)
		}
	}
	var each []api.Field
	for i := range 32 {
		each = append(each, api.Field{Low: 31 - i, Width: 1})
	}
	if !bits.Apart(each...) {
		t.Error("each bit of a word is apart from the others")
	}
	if bits.Apart(append(each, each[0])...) || bits.Apart(append(each, api.Field{})...) {
		t.Error("a bit too many")
	}
	if bits.Apart(api.Field{Low: 0, Width: 4}, api.Field{Low: 8, Width: 4}, api.Field{Low: 3, Width: 1}) {
		t.Error("the first and the last have a bit in common")
	}
}

// signOf is the lowest bits of v with a sign, reckoned with numbers of any length.
func signOf(v uint64, width int) int64 {
	n := new(big.Int).SetUint64(v)
	all := new(big.Int).Lsh(big.NewInt(1), uint(width))
	n.Mod(n, all)
	if n.Bit(width-1) == 1 {
		n.Sub(n, all)
	}
	return n.Int64()
}

// P1.2: Sign.
func TestSign(t *testing.T) {
	for _, c := range []struct {
		v     uint64
		width int
		want  int64
	}{{0xff, 8, -1}, {0x7f, 8, 127}, {0x80, 8, -128}, {0xff00, 8, 0}, {1, 1, -1}, {2, 1, 0}, {1 << 63, 64, math.MinInt64}, {1<<63 - 1, 64, math.MaxInt64}, {1 << 63, 63, 0}} {
		if n, e := bits.Sign(c.v, c.width); n != c.want || e != api.OK {
			t.Errorf("Sign(%#x, %d): %d, %d", c.v, c.width, n, e)
		}
	}
	for width := 1; width <= 64; width++ {
		for _, v := range append(someNumbers(width), someNumbers(64)...) {
			if n, e := bits.Sign(v, width); n != signOf(v, width) || e != api.OK {
				t.Fatalf("Sign(%#x, %d): %d, %d", v, width, n, e)
			}
		}
	}
	for _, width := range append([]int{0, 65, 66, 128}, oddWidths...) {
		if n, e := bits.Sign(5, width); n != 0 || e != api.ErrWidth {
			t.Errorf("Sign(5, %d): %d, %d", width, n, e)
		}
	}
}

// within tells whether v is of so many bits, reckoned with numbers of any length.
func within(v int64, width int, signed bool) bool {
	least, behind := big.NewInt(0), new(big.Int).Lsh(big.NewInt(1), uint(width))
	if signed {
		behind.Rsh(behind, 1)
		least.Neg(behind)
	}
	n := big.NewInt(v)
	return n.Cmp(least) >= 0 && n.Cmp(behind) < 0
}

// P1.2: Fits, at all edges of all widths.
func TestFits(t *testing.T) {
	numbers := []int64{0, 1, 2, -1, -2, math.MinInt64, math.MinInt64 + 1, math.MaxInt64, math.MaxInt64 - 1}
	for i := 1; i < 63; i++ {
		p := int64(1) << i
		numbers = append(numbers, p, p-1, p+1, -p, -p-1, -p+1)
	}
	for _, v := range numbers {
		for width := 1; width <= 64; width++ {
			for _, signed := range []bool{false, true} {
				if bits.Fits(v, width, signed) != within(v, width, signed) {
					t.Fatalf("Fits(%d, %d, %t)", v, width, signed)
				}
			}
		}
		for _, width := range append([]int{0, 65, 66, 128}, oddWidths...) {
			if bits.Fits(v, width, false) || bits.Fits(v, width, true) {
				t.Fatalf("Fits(%d, %d)", v, width)
			}
		}
	}
}

// P1.2: Ones.
func TestOnes(t *testing.T) {
	want := uint64(0)
	for n := 0; n <= 64; n++ {
		if bits.Ones(n) != want {
			t.Errorf("Ones(%d): %#x", n, bits.Ones(n))
		}
		want = want<<1 | 1
	}
	for _, n := range append([]int{65, 66, 127, 128, 129}, oddWidths...) {
		want := ^uint64(0)
		if n < 0 {
			want = 0
		}
		if bits.Ones(n) != want {
			t.Errorf("Ones(%d): %#x", n, bits.Ones(n))
		}
	}
}

// turned is a number turned to the right, bit by bit.
func turned(v uint64, width, by int) uint64 {
	out := uint64(0)
	for i := range width {
		to := ((i-by%width)%width + width) % width
		out |= bit(v, i) << to
	}
	return out
}

func someTurns(width int) []int {
	l := []int{width, -width, width + 1, -width - 1, 2*width - 1, 1 - 2*width, 1000, -1000, math.MinInt, math.MinInt + 1, math.MaxInt, math.MaxInt - 1}
	for by := 0; by < width; by++ {
		l = append(l, by, -by)
	}
	return l
}

// P1.2: Turn.
func TestTurn(t *testing.T) {
	if v, e := bits.Turn(1, 4, 1); v != 8 || e != api.OK {
		t.Errorf("the document's example: %d, %d", v, e)
	}
	for width := 1; width <= 64; width++ {
		for _, v := range someNumbers(width) {
			for _, by := range someTurns(width) {
				if x, e := bits.Turn(v, width, by); x != turned(v, width, by) || e != api.OK {
					t.Fatalf("Turn(%#x, %d, %d): %#x, %d", v, width, by, x, e)
				}
			}
		}
		if width == 64 {
			continue
		}
		for _, v := range []uint64{1 << width, 1<<width + 1, 1 << 63, ^uint64(0)} {
			for _, by := range []int{0, 1, -1, width} {
				if x, e := bits.Turn(v, width, by); x != 0 || e != api.ErrRange {
					t.Fatalf("Turn(%#x, %d, %d): %#x, %d", v, width, by, x, e)
				}
			}
		}
	}
	for _, width := range append([]int{0, 65, 128}, oddWidths...) {
		for _, v := range []uint64{0, 1, ^uint64(0)} {
			if x, e := bits.Turn(v, width, 1); x != 0 || e != api.ErrWidth {
				t.Errorf("Turn(%#x, %d, 1): %#x, %d", v, width, x, e)
			}
		}
	}
}

// runsOf are the runs among the lowest bits of v, read bit by bit.
func runsOf(v uint64, width int) [][2]int {
	var l [][2]int
	for i := 0; i < width; i++ {
		switch {
		case bit(v, i) == 0:
		case i > 0 && bit(v, i-1) == 1:
			l[len(l)-1][1]++
		default:
			l = append(l, [2]int{i, 1})
		}
	}
	return l
}

func toldRuns(v uint64, width int) [][2]int {
	var l [][2]int
	for at, n := range bits.Runs(v, width) {
		l = append(l, [2]int{at, n})
	}
	return l
}

// P1.3: Runs: all of them, rising, as long as can be, of no more bits than there are.
func TestRuns(t *testing.T) {
	for _, c := range []struct {
		v     uint64
		width int
		want  string
	}{
		{0b1101110, 7, "[[1 3] [5 2]]"},
		{0b1101110, 6, "[[1 3] [5 1]]"},
		{0b1101110, 3, "[[1 2]]"},
		{0b1101110, 1, "[]"},
		{0, 64, "[]"},
		{^uint64(0), 64, "[[0 64]]"},
		{^uint64(0), 1, "[[0 1]]"},
		{1<<63 | 1, 64, "[[0 1] [63 1]]"},
		{1<<63 | 1, 63, "[[0 1]]"},
	} {
		if got := fmt.Sprint(toldRuns(c.v, c.width)); got != c.want {
			t.Errorf("Runs(%#b, %d): %s", c.v, c.width, got)
		}
	}
	for width := 1; width <= 64; width++ {
		for _, v := range append(someNumbers(width), someNumbers(64)...) {
			if got := toldRuns(v, width); !slices.Equal(got, runsOf(v, width)) {
				t.Fatalf("Runs(%#x, %d): %v", v, width, got)
			}
		}
	}
	for _, v := range someNumbers(64) {
		for _, width := range append([]int{0, 65, 66}, oddWidths...) {
			want := runsOf(v, 64)
			if width < 1 {
				want = nil
			}
			if got := toldRuns(v, width); !slices.Equal(got, want) {
				t.Fatalf("Runs(%#x, %d): %v", v, width, got)
			}
		}
	}
}

// P1.3: a range over Runs may stop at any point, and be done again.
func TestRunsStops(t *testing.T) {
	runs := bits.Runs(0x5555555555555555, 64)
	for stop := 1; stop <= 33; stop++ {
		n := 0
		for at, k := range runs {
			if at != 2*n || k != 1 {
				t.Fatalf("run %d: %d, %d", n, at, k)
			}
			if n++; n == stop {
				break
			}
		}
		if n != min(stop, 32) {
			t.Fatalf("stopped behind %d of %d", n, stop)
		}
	}
}

// P1.3: Bytes: the lowest one first, nobody else's.
func TestBytes(t *testing.T) {
	if got := bits.Bytes(0x12345678); !slices.Equal(got, []byte{0x78, 0x56, 0x34, 0x12}) {
		t.Errorf("% x", got)
	}
	for _, w := range someWords() {
		got := bits.Bytes(w)
		if len(got) != 4 {
			t.Fatalf("%d bytes", len(got))
		}
		for i, x := range got {
			if x != byte(w>>(8*i)) {
				t.Fatalf("byte %d of %#x: %#x", i, w, x)
			}
		}
	}
	a, b := bits.Bytes(1), bits.Bytes(1)
	a[0] = 9
	if b[0] != 1 || bits.Bytes(1)[0] != 1 {
		t.Error("two answers share their bytes")
	}
}

// P1.3: Word: just four bytes.
func TestWord(t *testing.T) {
	b := []byte{0x78, 0x56, 0x34, 0x92}
	if w, e := bits.Word(b); w != 0x92345678 || e != api.OK {
		t.Errorf("%#x, %d", w, e)
	}
	if !slices.Equal(b, []byte{0x78, 0x56, 0x34, 0x92}) {
		t.Error("Word wrote to what it was handed")
	}
	if w, e := bits.Word([]byte{1, 2, 3, 4, 5}[:4]); w != 0x04030201 || e != api.OK {
		t.Errorf("of a longer array: %#x, %d", w, e)
	}
	if w, e := bits.Word(nil); w != 0 || e != api.ErrLong {
		t.Errorf("of nil: %#x, %d", w, e)
	}
	for _, n := range []int{0, 1, 2, 3, 5, 6, 7, 8, 1000} {
		if w, e := bits.Word([]byte(strings.Repeat("x", n))); w != 0 || e != api.ErrLong {
			t.Errorf("of %d bytes: %#x, %d", n, w, e)
		}
	}
}

// P1.4: there and back.
func TestThereAndBack(t *testing.T) {
	d := draws(4)
	for _, f := range wordFields() {
		for _, w := range someWords() {
			v := uint32(d.next()) >> (32 - f.Width)
			x, e := bits.Put(w, f, v)
			if e != api.OK {
				t.Fatal(f, v, e)
			}
			if got, e := bits.Get(x, f); got != v || e != api.OK {
				t.Fatalf("Get of Put(%#x, %v, %#x): %#x, %d", w, f, v, got, e)
			}
			for i := range 32 {
				if (i < f.Low || i >= f.Low+f.Width) && bit(uint64(x), i) != bit(uint64(w), i) {
					t.Fatalf("Put(%#x, %v, %#x): bit %d", w, f, v, i)
				}
			}
		}
	}
	for _, w := range someWords() {
		if x, e := bits.Word(bits.Bytes(w)); x != w || e != api.OK {
			t.Errorf("Word of Bytes of %#x: %#x, %d", w, x, e)
		}
	}
	for i := range 32 {
		if x, e := bits.Word(bits.Bytes(1 << i)); x != 1<<i || e != api.OK {
			t.Errorf("Word of Bytes of bit %d: %#x, %d", i, x, e)
		}
	}
}

// parted cuts a word into fields that are apart, some bits between them, in a mixed order.
func parted(d *draws) []api.Field {
	var l []api.Field
	for low := 0; low < 32; {
		width := min(1+int(d.next()%8), 32-low)
		if d.next()%4 != 0 {
			at := int(d.next() % uint64(len(l)+1))
			l = slices.Insert(l, at, api.Field{Low: low, Width: width})
		}
		low += width
	}
	return l
}

// P1.5: what is packed apart is there.
func TestPackedApart(t *testing.T) {
	d := draws(5)
	for range 500 {
		l := parted(&d)
		if !bits.Apart(l...) {
			t.Fatalf("%v are apart", l)
		}
		var v []uint32
		for _, f := range l {
			v = append(v, uint32(d.next())>>(32-f.Width))
		}
		w, e := bits.Pack(uint32(d.next()), l, v...)
		if e != api.OK {
			t.Fatal(l, v, e)
		}
		for i, f := range l {
			if got, e := bits.Get(w, f); got != v[i] || e != api.OK {
				t.Fatalf("%v of %#x: %#x, not %#x", f, w, got, v[i])
			}
		}
	}
}

func ones(v uint64) int { return strings.Count(fmt.Sprintf("%b", v), "1") }

// P1.6: turned back.
func TestTurnedBack(t *testing.T) {
	for width := 1; width <= 64; width++ {
		for _, v := range someNumbers(width) {
			for _, by := range []int{0, 1, 2, width / 2, width - 1, width, width + 1, 3*width + 5, -1, -width, -width - 3} {
				x, e := bits.Turn(v, width, by)
				if e != api.OK || ones(x) != ones(v) {
					t.Fatalf("Turn(%#x, %d, %d): %#x, %d", v, width, by, x, e)
				}
				if y, e := bits.Turn(x, width, -by); y != v || e != api.OK {
					t.Fatalf("Turn(%#x, %d, %d) and back: %#x, %d", v, width, by, y, e)
				}
			}
			if x, e := bits.Turn(v, width, width); x != v || e != api.OK {
				t.Fatalf("Turn(%#x, %d) by its width: %#x, %d", v, width, x, e)
			}
		}
	}
}

// P1.7: signs, and runs together.
func TestSigns(t *testing.T) {
	for width := 1; width <= 64; width++ {
		for _, v := range someNumbers(width) {
			n, e := bits.Sign(v, width)
			if e != api.OK || !bits.Fits(n, width, true) || uint64(n)&bits.Ones(width) != v {
				t.Fatalf("Sign(%#x, %d): %d, %d", v, width, n, e)
			}
			all := uint64(0)
			for at, k := range bits.Runs(v, width) {
				all |= bits.Ones(k) << at
			}
			if all != v {
				t.Fatalf("Runs(%#x, %d) together: %#x", v, width, all)
			}
		}
	}
}
