package logimm_test

import (
	"fmt"
	"iter"
	"math"
	"math/bits"
	"slices"
	"strconv"
	"strings"
	"testing"

	"cooper/api"
	"cooper/logimm"
)

var widths = []int{32, 64}

// otherWidths are widths that no logical immediate has.
var otherWidths = []int{0, 1, 2, 4, 8, 16, 31, 33, 48, 63, 65, 96, 128, -1, -32, -64, 1 << 31, 1<<32 + 32, 1<<32 + 64, math.MinInt, math.MinInt + 32, math.MaxInt}

// draws is a fixed row of numbers that look like drawn ones.
type draws uint64

func (d *draws) next() uint64 {
	*d += 0x9e3779b97f4a7c15
	z := uint64(*d)
	z = (z ^ z>>30) * 0xbf58476d1ce4e5b9
	z = (z ^ z>>27) * 0x94d049bb133111eb
	return z ^ z>>31
}

func all(width int) uint64 { return ^uint64(0) >> (64 - width) }

// row is a pattern, its parts and its value.
type row struct {
	size, ones, turn int
	n, immr, imms    int
	v                uint64
}

func (r row) field() int { return r.n*4096 + r.immr*64 + r.imms }

// digits is a number of the digits 0 and 1, the highest one first.
func digits(s string) uint64 {
	v, err := strconv.ParseUint(s, 2, 64)
	if err != nil {
		panic(err)
	}
	return v
}

// above is what the document has in imms ahead of the number of ones.
var above = map[int]string{2: "11110", 4: "1110", 8: "110", 16: "10", 32: "0", 64: ""}

// rowsOf are all patterns of a width, written out as digits.
func rowsOf(width int) []row {
	var l []row
	for size := 2; size <= width; size *= 2 {
		for ones := 1; ones < size; ones++ {
			element := strings.Repeat("0", size-ones) + strings.Repeat("1", ones)
			number := fmt.Sprintf("%0*b", 6-len(above[size]), ones-1)
			imms := int(digits(above[size] + number))
			for turn := range size {
				turned := element[size-turn:] + element[:size-turn]
				l = append(l, row{size, ones, turn, size / 64, turn, imms, digits(strings.Repeat(turned, width/size))})
			}
		}
	}
	return l
}

func byFields(width int) map[int]row {
	m := map[int]row{}
	for _, r := range rowsOf(width) {
		m[r.field()] = r
	}
	return m
}

func byValues(width int) map[uint64]row {
	m := map[uint64]row{}
	for _, r := range rowsOf(width) {
		m[r.v] = r
	}
	return m
}

// someValues are values that are patterns, nearly ones, and none at all; some have bits above 32.
func someValues() []uint64 {
	l := []uint64{0, 1, 2, 3, 5, 0x12345678, 1<<32 - 1, 1 << 32, 1<<32 + 1, 1 << 63, 1<<63 - 1, ^uint64(0), ^uint64(0) - 1, 0xffffffff00000000, 0x00000000ffffffff, 0x5555555500000000, 0x0000000055555555, 0x55555555aaaaaaaa, 0x0ff00ff00ff00ff1, 0x00ff00ff00ff00fe, 0x8000000100000001}
	for _, width := range widths {
		for _, r := range rowsOf(width) {
			l = append(l, r.v, r.v<<32, r.v|1<<63, r.v^1, r.v^1<<(width-1), r.v^1<<(width/2), r.v+1, r.v-1)
		}
	}
	d := draws(2)
	for range 2000 {
		v := d.next()
		l = append(l, v, v>>32, v&0xffff*0x0001000100010001, v&0xff*0x01010101, v&0xf*0x1111111111111111)
	}
	return l
}

// checkValue holds what the calls answer of a value against its row.
func checkValue(t *testing.T, v uint64, width int, want row, err api.Errno) {
	t.Helper()
	if n, immr, imms, e := logimm.Encode(v, width); n != want.n || immr != want.immr || imms != want.imms || e != err {
		t.Fatalf("Encode(%#x, %d): %d, %d, %d, %d", v, width, n, immr, imms, e)
	}
	if size, ones, turn, e := logimm.Pattern(v, width); size != want.size || ones != want.ones || turn != want.turn || e != err {
		t.Fatalf("Pattern(%#x, %d): %d, %d, %d, %d", v, width, size, ones, turn, e)
	}
	if f, e := logimm.Field(v, width); f != want.field() || e != err {
		t.Fatalf("Field(%#x, %d): %d, %d", v, width, f, e)
	}
}

// The document's examples, and edges written out by hand.
func TestExamples(t *testing.T) {
	for _, c := range []struct {
		width int
		r     row
	}{
		{64, row{64, 8, 0, 1, 0, 7, 0xff}},
		{32, row{2, 1, 0, 0, 0, 60, 0x55555555}},
		{32, row{32, 6, 3, 0, 3, 5, 0xe0000007}},
		{32, row{2, 1, 1, 0, 1, 60, 0xaaaaaaaa}},
		{32, row{32, 1, 0, 0, 0, 0, 1}},
		{32, row{32, 31, 31, 0, 31, 30, 0xfffffffe}},
		{32, row{32, 31, 1, 0, 1, 30, 0xbfffffff}},
		{64, row{64, 1, 0, 1, 0, 0, 1}},
		{64, row{64, 1, 1, 1, 1, 0, 1 << 63}},
		{64, row{64, 63, 63, 1, 63, 62, 0xfffffffffffffffe}},
		{64, row{32, 1, 0, 0, 0, 0, 0x0000000100000001}},
		{64, row{32, 16, 16, 0, 16, 15, 0xffff0000ffff0000}},
		{64, row{16, 8, 12, 0, 12, 39, 0x0ff00ff00ff00ff0}},
		{64, row{16, 15, 0, 0, 0, 46, 0x7fff7fff7fff7fff}},
		{64, row{8, 2, 1, 0, 1, 49, 0x8181818181818181}},
		{64, row{8, 7, 7, 0, 7, 54, 0xfefefefefefefefe}},
		{64, row{4, 2, 0, 0, 0, 57, 0x3333333333333333}},
		{64, row{4, 3, 3, 0, 3, 58, 0xeeeeeeeeeeeeeeee}},
		{64, row{2, 1, 0, 0, 0, 60, 0x5555555555555555}},
	} {
		checkValue(t, c.r.v, c.width, c.r, api.OK)
		if v, e := logimm.Decode(c.r.n, c.r.immr, c.r.imms, c.width); v != c.r.v || e != api.OK {
			t.Errorf("Decode of %v: %#x, %d", c.r, v, e)
		}
		if v, e := logimm.Value(c.r.field(), c.width); v != c.r.v || e != api.OK {
			t.Errorf("Value of %v: %#x, %d", c.r, v, e)
		}
	}
}

// P2.1: Decode, of all parts and of many that are none.
func TestDecode(t *testing.T) {
	odd := []int{-1, -2, -64, 64, 65, 66, 124, 128, 1 << 32, 1<<32 + 1, 1 << 62, math.MinInt, math.MinInt + 60, math.MaxInt, math.MaxInt - 3}
	var ns, parts []int
	ns = append(append(ns, 0, 1, 2, 3), odd...)
	for i := range 64 {
		parts = append(parts, i)
	}
	parts = append(parts, odd...)
	for _, width := range widths {
		rows := byFields(width)
		for _, n := range ns {
			for _, immr := range parts {
				for _, imms := range parts {
					want, there := row{n: n, immr: immr, imms: imms}, false
					if n>>1 == 0 && immr>>6 == 0 && imms>>6 == 0 {
						want, there = rows[want.field()]
					}
					v, e := logimm.Decode(n, immr, imms, width)
					if there && (v != want.v || e != api.OK) || !there && (v != 0 || e != api.ErrLogImm) {
						t.Fatalf("Decode(%d, %d, %d, %d): %#x, %d", n, immr, imms, width, v, e)
					}
				}
			}
		}
	}
}

// P2.1: what the Arm ARM lets be, and the document does not: bits of immr above the element's size; and full elements.
func TestDecodeNone(t *testing.T) {
	for _, c := range []struct{ n, immr, imms, width int }{
		{0, 2, 60, 32}, {0, 3, 60, 64}, {0, 63, 60, 64}, {0, 4, 56, 32}, {0, 8, 48, 64}, {0, 16, 32, 32}, {0, 32, 0, 64}, {0, 32, 0, 32}, {0, 63, 5, 64},
		{0, 0, 31, 32}, {0, 0, 47, 32}, {0, 0, 55, 64}, {0, 0, 59, 64}, {0, 0, 61, 64}, {0, 0, 62, 64}, {0, 0, 63, 64}, {1, 0, 63, 64},
		{1, 0, 0, 32}, {1, 0, 62, 32}, {1, 0, 60, 32}, {1, 31, 7, 32},
	} {
		if v, e := logimm.Decode(c.n, c.immr, c.imms, c.width); v != 0 || e != api.ErrLogImm {
			t.Errorf("Decode%v: %#x, %d", c, v, e)
		}
	}
}

// P2.1, P2.2: Encode, Pattern and Field, of all values that are ones, and of many that are none.
func TestOfValues(t *testing.T) {
	values := someValues()
	for _, width := range widths {
		rows, none := byValues(width), 0
		for _, v := range values {
			if r, there := rows[v]; there {
				checkValue(t, v, width, r, api.OK)
				continue
			}
			none++
			checkValue(t, v, width, row{}, api.ErrLogImm)
		}
		if none < 1000 {
			t.Errorf("of %d: only %d values were none", width, none)
		}
	}
}

// P2.1, P2.5: neither zeros nor ones alone, nor what has bits above the width.
func TestNoValues(t *testing.T) {
	for _, v := range []uint64{0, all(32), 5, 0x12345678, 1 << 32, 1<<32 | 1, 0xaaaaaaaaaaaaaaaa, 1 << 63, 0xff000000ff, ^uint64(0)} {
		checkValue(t, v, 32, row{}, api.ErrLogImm)
	}
	for _, v := range []uint64{0, ^uint64(0), 5, 0x55555555aaaaaaaa, 0x3333333333333332, 0x0101010101010100, 0x00ff00ff00ff00fe, 0xa000000000000000} {
		checkValue(t, v, 64, row{}, api.ErrLogImm)
	}
}

// P2.1: a width other than 32 and 64, whatever else is wrong.
func TestOtherWidths(t *testing.T) {
	for _, width := range otherWidths {
		for _, v := range []uint64{0, 1, 0x55, 0xff, 0x55555555, ^uint64(0)} {
			checkValue(t, v, width, row{}, api.ErrArg)
		}
		for _, p := range []int{-1, 0, 1, 2, 60, 64, math.MinInt, math.MaxInt} {
			if v, e := logimm.Decode(p, p, p, width); v != 0 || e != api.ErrArg {
				t.Errorf("Decode(%d .., %d): %#x, %d", p, width, v, e)
			}
			if v, e := logimm.Decode(0, 0, p, width); v != 0 || e != api.ErrArg {
				t.Errorf("Decode(0, 0, %d, %d): %#x, %d", p, width, v, e)
			}
			if v, e := logimm.Value(p, width); v != 0 || e != api.ErrArg {
				t.Errorf("Value(%d, %d): %#x, %d", p, width, v, e)
			}
		}
		for f, v := range logimm.All(width) {
			t.Fatalf("All(%d) tells %d, %#x", width, f, v)
		}
	}
}

// P2.2: Value, of all fields and of numbers that are none.
func TestValue(t *testing.T) {
	for _, width := range widths {
		rows := byFields(width)
		for field := -9000; field < 20000; field++ {
			r, there := rows[field]
			v, e := logimm.Value(field, width)
			if there && (v != r.v || e != api.OK) || !there && (v != 0 || e != api.ErrLogImm) {
				t.Fatalf("Value(%d, %d): %#x, %d", field, width, v, e)
			}
		}
		for _, field := range []int{1<<13 | 7, 1<<31 | 7, 1<<32 | 7, 1<<32 | 1<<12, 1<<62 | 7, math.MinInt | 7, math.MinInt, math.MaxInt} {
			if v, e := logimm.Value(field, width); v != 0 || e != api.ErrLogImm {
				t.Errorf("Value(%d, %d): %#x, %d", field, width, v, e)
			}
		}
	}
}

// pair is a field and its value.
type pair struct {
	field int
	v     uint64
}

func told(s iter.Seq2[int, uint64]) []pair {
	var l []pair
	for f, v := range s {
		l = append(l, pair{f, v})
	}
	return l
}

// wantAll is what All of a width tells.
func wantAll(width int) []pair {
	var l []pair
	for _, r := range rowsOf(width) {
		l = append(l, pair{r.field(), r.v})
	}
	slices.SortFunc(l, func(a, b pair) int { return a.field - b.field })
	return l
}

// P2.2, P2.4: All: all fields, rising, and their values; so many.
func TestAll(t *testing.T) {
	for width, count := range map[int]int{32: 1302, 64: 5334} {
		got := told(logimm.All(width))
		if !slices.Equal(got, wantAll(width)) {
			t.Errorf("All(%d) tells others", width)
		}
		values := map[uint64]bool{}
		for _, p := range got {
			values[p.v] = true
		}
		if len(got) != count || len(values) != count {
			t.Errorf("All(%d): %d fields, %d values", width, len(got), len(values))
		}
	}
}

// P2.2: a range over All may stop at any point, and be done again; two go on beside each other.
func TestAllStops(t *testing.T) {
	for _, width := range widths {
		want, s := wantAll(width), logimm.All(width)
		for stop := 1; stop <= len(want); stop += 1 + stop/3 {
			var got []pair
			for f, v := range s {
				if got = append(got, pair{f, v}); len(got) == stop {
					break
				}
			}
			if !slices.Equal(got, want[:stop]) {
				t.Fatalf("All(%d), stopped behind %d", width, stop)
			}
		}
		for f, v := range s {
			if inner := told(s); !slices.Equal(inner, want) || inner[0] != (pair{f, v}) {
				t.Fatalf("All(%d) within All", width)
			}
			break
		}
		if !slices.Equal(told(s), want) {
			t.Errorf("All(%d) again", width)
		}
	}
}

// P2.3: there and back.
func TestThereAndBack(t *testing.T) {
	for _, width := range widths {
		for field, v := range logimm.All(width) {
			if f, e := logimm.Field(v, width); f != field || e != api.OK {
				t.Fatalf("Field of Value(%d, %d): %d, %d", field, width, f, e)
			}
			if x, e := logimm.Value(field, width); x != v || e != api.OK {
				t.Fatalf("Value of Field(%#x, %d): %#x, %d", v, width, x, e)
			}
			n, immr, imms, e := logimm.Encode(v, width)
			if e != api.OK || n<<12|immr<<6|imms != field {
				t.Fatalf("Encode(%#x, %d): %d, %d, %d, %d", v, width, n, immr, imms, e)
			}
			if x, e := logimm.Decode(n, immr, imms, width); x != v || e != api.OK {
				t.Fatalf("Decode of Encode(%#x, %d): %#x, %d", v, width, x, e)
			}
		}
	}
}

// P2.5: turned over, a value is one too, if it was one.
func TestTurnedOver(t *testing.T) {
	values := someValues()
	for _, width := range widths {
		for _, v := range values {
			v &= all(width)
			size, ones, _, e := logimm.Pattern(v, width)
			overSize, overOnes, _, overErr := logimm.Pattern(^v&all(width), width)
			if e != overErr || e == api.OK && (overSize != size || overOnes != size-ones) {
				t.Fatalf("%#x of %d: size %d, ones %d, error %d; turned over: %d, %d, %d", v, width, size, ones, e, overSize, overOnes, overErr)
			}
			if e == api.OK && bits.OnesCount64(v) != ones*(width/size) {
				t.Fatalf("%#x of %d: %d ones in an element", v, width, ones)
			}
		}
	}
}

// P2.6: a value of 32 bits is one just if it is, twice behind itself, one of 64.
func TestAsLong(t *testing.T) {
	for _, v := range someValues() {
		v &= all(32)
		n, immr, imms, e := logimm.Encode(v, 32)
		n2, immr2, imms2, e2 := logimm.Encode(v<<32|v, 64)
		if n != n2 || immr != immr2 || imms != imms2 || e != e2 {
			t.Fatalf("%#x: %d, %d, %d, %d; twice: %d, %d, %d, %d", v, n, immr, imms, e, n2, immr2, imms2, e2)
		}
	}
}
