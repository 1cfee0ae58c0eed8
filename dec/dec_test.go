package dec_test

import (
	"iter"
	"math/rand/v2"
	"slices"
	"testing"

	"cooper/api"
	"cooper/bits"
	"cooper/dec"
	"cooper/enc"
	"cooper/inst"
	"cooper/logimm"
)

// lows are lower halves of words: registers and numbers at their edges, and what stands there by rules.
var lows = []uint32{0x0000, 0xffff, 0x03e0, 0x7c00, 0x7c20, 0x7fff, 0xfc20, 0xfc00, 0x0020, 0x0c41, 0x0400, 0x0800, 0x6820, 0x403f, 0x30bf, 0x201f}

// words are words to be held against the document: each upper half with lower halves, upper halves of each class with each lower half, and the neighbours of words that are instructions.
func words(t testing.TB) iter.Seq[uint32] {
	r := rand.New(rand.NewPCG(6, 1))
	return func(yield func(uint32) bool) {
		for high := range uint32(1 << 16) {
			for _, low := range lows {
				if !yield(high<<16|low) || !yield(high<<16|uint32(r.IntN(1<<16))) {
					return
				}
			}
		}
		for _, f := range forms(t) {
			high := (f.base | r.Uint32()&^f.ones) &^ 0xffff
			for low := range uint32(1 << 16) {
				if !yield(high | low) {
					return
				}
			}
		}
		for op := api.OpAdr; op <= api.OpDp3; op++ {
			for range 200 {
				w, _ := enc.Encode(drawn(r, op))
				for bit := range 32 {
					if !yield(w ^ 1<<bit) {
						return
					}
				}
			}
		}
	}
}

// number is one within limits, often one of its edges.
func number(r *rand.Rand, l api.Limit) int64 {
	switch r.IntN(8) {
	case 0:
		return l.Least
	case 1:
		return l.Most
	}
	return l.Least + r.Int64N(l.Most-l.Least+1)
}

// drawn is an instruction of a class, one of all that there are.
func drawn(r *rand.Rand, op int) api.Inst {
	for {
		x := api.Inst{Op: op}
		for l := range inst.Limits(op) {
			v := int64(0)
			if op == api.OpLogImm && l.Field == api.FdA {
				v = pattern(r, x.X)
			} else {
				v = number(r, l)
			}
			x, _ = inst.With(x, l.Field, v)
		}
		if inst.Check(x) == api.OK {
			return x
		}
	}
}

// pattern is a logical immediate.
func pattern(r *rand.Rand, long bool) int64 {
	width := map[bool]int{false: 32, true: 64}[long]
	for {
		if v, e := logimm.Value(r.IntN(1<<api.LogBits), width); e == api.OK {
			return int64(v)
		}
	}
}

// P6.1: Decode and Class, of each class and of words that are none: what the document's table has.
// P6.3, P6.4: Encode of Decode is the word; Check takes what Decode answers.
func TestDecode(t *testing.T) {
	all := forms(t)
	var found [api.OpDp3 + 1]int
	for w := range words(t) {
		want, is := meant(t, all, w)
		found[want.Op]++
		x, e := dec.Decode(w)
		if x != want || is != (e == api.OK) || !is && e != api.ErrNone {
			t.Fatalf("Decode(%08x): %+v, %d, not %+v", w, x, e, want)
		}
		if op := dec.Class(w); op != want.Op {
			t.Fatalf("Class(%08x): %d, not %d", w, op, want.Op)
		}
		if !is {
			continue
		}
		if e := inst.Check(x); e != api.OK {
			t.Fatalf("Check(%+v) of %08x: %d", x, w, e)
		}
		if back, e := enc.Encode(x); back != w || e != api.OK {
			t.Fatalf("Encode(%+v): %08x, %d, not %08x", x, back, e, w)
		}
	}
	for op, n := range found {
		if n < 1000 {
			t.Errorf("class %d: %d words", op, n)
		}
	}
}

// P6.3: Decode of Encode is the instruction.
func TestThereAndBack(t *testing.T) {
	r := rand.New(rand.NewPCG(6, 3))
	for op := api.OpAdr; op <= api.OpDp3; op++ {
		for range 10000 {
			x := drawn(r, op)
			w, e := enc.Encode(x)
			if e != api.OK {
				t.Fatalf("Encode(%+v): %d", x, e)
			}
			if y, e := dec.Decode(w); y != x || e != api.OK {
				t.Fatalf("Decode(%08x): %+v, %d, not %+v", w, y, e, x)
			}
		}
	}
}

// P6.3: all logical immediates there and back, of both widths; and all other fields are none.
func TestLogicalImmediates(t *testing.T) {
	for _, c := range []struct {
		base  uint32
		width int
	}{{0x12000000, 32}, {0x92000000, 64}} {
		there := map[uint32]uint64{}
		for field, v := range logimm.All(c.width) {
			there[c.base|uint32(field)<<10] = v
		}
		for field := range uint32(1 << api.LogBits) {
			w := c.base | field<<10
			v, is := there[w]
			want := api.Inst{}
			if is {
				want = api.Inst{Op: api.OpLogImm, X: c.width == 64, A: int64(v)}
			}
			if x, e := dec.Decode(w); x != want || is != (e == api.OK) {
				t.Errorf("Decode(%08x): %+v, %d, not %+v", w, x, e, want)
			}
		}
	}
}

// P6.4: two unlike words have unlike instructions.
func TestThereIsOne(t *testing.T) {
	of := map[api.Inst]uint32{}
	r := rand.New(rand.NewPCG(6, 4))
	for range 2000000 {
		w := r.Uint32()
		x, e := dec.Decode(w)
		if e != api.OK {
			continue
		}
		if other, is := of[x]; is && other != w {
			t.Fatalf("%08x and %08x: %+v", w, other, x)
		}
		of[x] = w
	}
	if len(of) < 100000 {
		t.Error(len(of))
	}
}

// code is words as bytes.
func code(l ...uint32) []byte {
	var b []byte
	for _, w := range l {
		b = append(b, bits.Bytes(w)...)
	}
	return b
}

// told is a word and its instruction.
type told struct {
	w uint32
	x api.Inst
}

// collected is what All tells of bytes.
func collected(s iter.Seq2[uint32, api.Inst]) []told {
	var l []told
	for w, x := range s {
		l = append(l, told{w, x})
	}
	return l
}

// some are words, and what All has to tell of them.
var some = []told{
	{0x8b020020, api.Inst{Op: api.OpAddReg, X: true, Rn: 1, Rm: 2}},
	{0x00000000, api.Inst{}},
	{0xd503201f, api.Inst{Op: api.OpHint}},
	{0x97ffffff, api.Inst{Op: api.OpB, S: true, A: -1}},
	{0xffffffff, api.Inst{}},
	{0xd65f03c0, api.Inst{Op: api.OpBr, B: 2, Rn: 30}},
}

func someCode() []byte {
	var l []uint32
	for _, s := range some {
		l = append(l, s.w)
	}
	return code(l...)
}

// P6.2: All: each word, the lowest byte first, and its instruction; what stands behind the last whole word counts for nothing.
func TestAll(t *testing.T) {
	b := someCode()
	if got := collected(dec.All([]byte{0x1f, 0x20, 0x03, 0xd5})); !slices.Equal(got, some[2:3]) {
		t.Errorf("All of a nop: %v", got)
	}
	for n := range len(b) + 1 {
		if got := collected(dec.All(b[:n])); !slices.Equal(got, some[:n/4]) {
			t.Errorf("All of %d bytes: %v", n, got)
		}
	}
	if got := collected(dec.All(nil)); len(got) != 0 {
		t.Errorf("All of nothing: %v", got)
	}
}

// P6.2: All: through as many as MaxCode bytes, through none of more.
func TestAllLimit(t *testing.T) {
	b := slices.Repeat(code(0xd503201f, 0), api.MaxCode/8+1)
	for n, want := range map[int]int{
		api.MaxCode - 1: api.MaxCode/4 - 1,
		api.MaxCode:     api.MaxCode / 4,
		api.MaxCode + 1: 0,
		api.MaxCode + 4: 0,
		api.MaxCode + 8: 0,
	} {
		got := collected(dec.All(b[:n]))
		if len(got) != want {
			t.Errorf("All of %d bytes: %d words", n, len(got))
		}
		for i, s := range got {
			if i%2 == 0 && s != some[2] || i%2 == 1 && s != some[1] {
				t.Fatalf("All of %d bytes: word %d is %v", n, i, s)
			}
		}
	}
}

// P6.2: a range over All may stop at any point, and be done again; two go on beside each other.
func TestAllStops(t *testing.T) {
	s := dec.All(someCode())
	for stop := 1; stop <= len(some); stop++ {
		var got []told
		for w, x := range s {
			if got = append(got, told{w, x}); len(got) == stop {
				break
			}
		}
		if !slices.Equal(got, some[:stop]) {
			t.Errorf("All, stopped behind %d: %v", stop, got)
		}
	}
	for range s {
		if inner := collected(s); !slices.Equal(inner, some) {
			t.Errorf("All within All: %v", inner)
		}
	}
}

// P6.2: All tells what was there when it was asked for; neither call writes to what it is handed.
func TestOwn(t *testing.T) {
	b := someCode()
	s := dec.All(b)
	collected(s)
	if _, e := dec.Count(b); e != api.OK || !slices.Equal(b, someCode()) {
		t.Errorf("%x became %x", someCode(), b)
	}
	clear(b)
	if got := collected(s); !slices.Equal(got, some) {
		t.Errorf("All of bytes that were changed: %v", got)
	}
	first, _ := dec.Count(someCode())
	want := slices.Clone(first)
	second, _ := dec.Count(someCode())
	clear(second)
	if !slices.Equal(first, want) {
		t.Errorf("Count: %v became %v", want, first)
	}
}

// P6.2: Count: how many words of each class, and of none.
func TestCount(t *testing.T) {
	zeros := make([]int, api.OpDp3+1)
	for _, b := range [][]byte{nil, {}} {
		if n, e := dec.Count(b); !slices.Equal(n, zeros) || e != api.OK {
			t.Errorf("Count of nothing: %v, %d", n, e)
		}
	}
	want := slices.Clone(zeros)
	want[0], want[api.OpAddReg], want[api.OpHint], want[api.OpB], want[api.OpBr] = 2, 1, 1, 1, 1
	if n, e := dec.Count(someCode()); !slices.Equal(n, want) || e != api.OK {
		t.Errorf("Count: %v, %d", n, e)
	}
	r := rand.New(rand.NewPCG(6, 2))
	clear(want)
	var l []uint32
	for op := api.OpAdr; op <= api.OpDp3; op++ {
		for range op * 10 {
			w, _ := enc.Encode(drawn(r, op))
			l = append(l, w)
		}
		want[op] = op * 10
	}
	if n, e := dec.Count(code(l...)); !slices.Equal(n, want) || e != api.OK {
		t.Errorf("Count: %v, %d", n, e)
	}
}

// P6.2: Count refuses more than MaxCode bytes first, and then what is no multiple of four.
func TestCountRefuses(t *testing.T) {
	for n, want := range map[int]api.Errno{
		1:               api.ErrArg,
		2:               api.ErrArg,
		3:               api.ErrArg,
		4:               api.OK,
		5:               api.ErrArg,
		1022:            api.ErrArg,
		api.MaxCode - 4: api.OK,
		api.MaxCode - 1: api.ErrArg,
		api.MaxCode:     api.OK,
		api.MaxCode + 1: api.ErrLong,
		api.MaxCode + 2: api.ErrLong,
		api.MaxCode + 4: api.ErrLong,
		api.MaxCode * 2: api.ErrLong,
	} {
		got, e := dec.Count(make([]byte, n))
		if e != want || (e != api.OK) != (got == nil) {
			t.Errorf("Count of %d bytes: %v, %d", n, got, e)
		}
	}
}

// P6.5: Count's numbers are together as many as there are words, each being that of its class.
func TestCountTogether(t *testing.T) {
	r := rand.New(rand.NewPCG(6, 5))
	for range 200 {
		b := make([]byte, 4*r.IntN(2000))
		for i := range b {
			b[i] = byte(r.Uint32())
		}
		want := make([]int, api.OpDp3+1)
		for at := 0; at < len(b); at += 4 {
			w, _ := bits.Word(b[at : at+4])
			want[dec.Class(w)]++
		}
		n, e := dec.Count(b)
		sum := 0
		for _, k := range n {
			sum += k
		}
		if !slices.Equal(n, want) || sum != len(b)/4 || e != api.OK {
			t.Fatalf("Count of %d words: %v, %d, not %v", len(b)/4, n, e, want)
		}
	}
}

// The document's examples.
func TestExamples(t *testing.T) {
	if x, e := dec.Decode(0x8b020020); x != (api.Inst{Op: api.OpAddReg, X: true, Rd: 0, Rn: 1, Rm: 2}) || e != api.OK {
		t.Errorf("Decode(8b020020): %+v, %d", x, e)
	}
	if x, e := dec.Decode(0); x != (api.Inst{}) || e != api.ErrNone {
		t.Errorf("Decode(00000000): %+v, %d", x, e)
	}
}
