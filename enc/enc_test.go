package enc_test

import (
	"iter"
	"math"
	"slices"
	"strconv"
	"strings"
	"testing"

	"cooper/api"
	"cooper/bits"
	"cooper/enc"
	"cooper/inst"
	"cooper/logimm"
)

// table is what the document has of each class's word, from bit 31 down: fixed bits, fields with their width (behind > what is left out of their lowest bits), and, in small letters, what a rule makes of fields.
const table = `OpAdr | X A:2 10000 A>2:19 Rd
OpAddImm | X B:1 S 100010 C:1 A:12 Rn Rd
OpLogImm | X B:2 100100 n:1 immr:6 imms:6 Rn Rd
OpMovWide | X B:2 100101 C:2 A:16 Rd
OpBitfield | X B:2 100110 X A:6 C:6 Rn Rd
OpExtract | X 00100111 X 0 Rm A:6 Rn Rd
OpBCond | 01010100 A:19 0 B:4
OpB | S 00101 A:26
OpCb | X 011010 B:1 A:19 Rd
OpTb | C>5:1 011011 B:1 C:5 A:14 Rd
OpBr | 1101011 B:4 11111000000 eret:5 00000
OpExc | 11010100 exc0:3 A:16 000 exc1:2
OpHint | 11010101000000110010 A:7 11111
OpBar | 11010101000000110011 A:4 B:3 11111
OpSysReg | 1101010100 B:1 1 A:15 Rd
OpMsrImm | 1101010100000 msr0:3 0100 A:4 msr1:3 11111
OpSys | 1101010100 B:1 01 A:14 Rd
OpLdLit | B:2 011000 A:19 Rd
OpPair | B:2 1010 C:3 S A:7 Ra Rn Rd
OpLdImm | B:2 111001 C:2 A:12 Rn Rd
OpLdIdx | B:2 111000 C:2 0 A:9 Ra:2 Rn Rd
OpLdReg | B:2 111000 C:2 1 Rm A:3 S 10 Rn Rd
OpEx | B:2 001000 ex0:1 S ex1:1 status:5 X second:5 Rn Rd
OpLogReg | X B:2 01010 C:2 S Rm A:6 Rn Rd
OpAddReg | X B:1 S 01011 C:2 0 Rm A:6 Rn Rd
OpAddExt | X B:1 S 01011001 Rm C:3 A:3 Rn Rd
OpAdc | X B:1 S 11010000 Rm 000000 Rn Rd
OpCcmp | X B:1 111010010 Rm C:4 S 0 Rn 0 A:4
OpCsel | X B>1:1 011010100 Rm A:4 0 B:1 Rn Rd
OpDp1 | X 1011010110 00000 B:6 Rn Rd
OpDp2 | X 0011010110 Rm B:6 Rn Rd
OpDp3 | X 0011011 sum0:3 Rm sum1:1 third:5 Rn Rd`

// The document's rules by B (of OpEx by A), one number behind the other: two groups of bits each.
const (
	excRule = "000 01, 000 10, 000 11, 001 00, 010 00, 101 01, 101 10, 101 11"
	msrRule = "000 101, 011 110, 011 111, 000 100, 000 011, 011 010"
	exRule  = "0 0, 0 1, 1 0"
	sumRule = "000 0, 000 1, 001 0, 001 1, 010 0, 101 0, 101 1, 110 0"
)

// noOps are numbers of no class.
var noOps = []int{0, -1, -2, 33, 34, 64, 255, 256 + api.OpB, 1<<16 + api.OpAdr, 1<<32 + api.OpAdr, 1<<32 + api.OpB, math.MinInt, math.MinInt + api.OpB, math.MaxInt}

// rows are the document's parts of each class, by its number.
func rows(t testing.TB) [][]string {
	t.Helper()
	all := [][]string{nil}
	for line := range strings.Lines(table) {
		_, parts, _ := strings.Cut(strings.TrimSpace(line), " | ")
		all = append(all, strings.Fields(parts))
	}
	if len(all) != api.OpDp3+1 {
		t.Fatal(len(all))
	}
	return all
}

func isFixed(p string) bool { return strings.Trim(p, "01") == "" }

// binary is a number's lowest bits, the highest one first.
func binary(v int64, width int) string {
	var b strings.Builder
	for i := width - 1; i >= 0; i-- {
		b.WriteByte(byte('0' + v>>i&1))
	}
	return b.String()
}

// chosen is the group of bits that a rule has for a number.
func chosen(rule string, n int64, group int) int64 {
	v, err := strconv.ParseInt(strings.Fields(strings.Split(rule, ", ")[n])[group], 2, 64)
	if err != nil {
		panic(err)
	}
	return v
}

// orOnes is a register's number, or, where there is none, 11111.
func orOnes(is bool, n int) int64 {
	if is {
		return int64(n)
	}
	return 31
}

// named is what stands in a part that is not fixed.
func named(x api.Inst, name string) int64 {
	n, immr, imms := 0, 0, 0
	if x.Op == api.OpLogImm {
		n, immr, imms, _ = logimm.Encode(uint64(x.A), map[bool]int{false: 32, true: 64}[x.X])
	}
	field := func(number int) int64 {
		v, _ := inst.Get(x, number)
		return v
	}
	switch name {
	case "n":
		return int64(n)
	case "immr":
		return int64(immr)
	case "imms":
		return int64(imms)
	case "eret":
		return orOnes(x.B != 4, x.Rn)
	case "exc0", "exc1":
		return chosen(excRule, x.B, int(name[3]-'0'))
	case "msr0", "msr1":
		return chosen(msrRule, x.B, int(name[3]-'0'))
	case "ex0", "ex1":
		return chosen(exRule, x.A, int(name[2]-'0'))
	case "sum0", "sum1":
		return chosen(sumRule, x.B, int(name[3]-'0'))
	case "status":
		return orOnes(!x.S && x.A != 2, x.Rm)
	case "second":
		return orOnes(x.A == 1, x.Ra)
	case "third":
		return orOnes(x.B != 4 && x.B != 7, x.Ra)
	}
	names := []string{"", "X", "S", "Rd", "Rn", "Rm", "Ra", "A", "B", "C"}
	return field(slices.Index(names, name))
}

// spelled is the bits of a part, as digits.
func spelled(x api.Inst, p string) string {
	if isFixed(p) {
		return p
	}
	p, how, told := strings.Cut(p, ":")
	width, _ := strconv.Atoi(how)
	switch {
	case told:
	case p == "X" || p == "S":
		width = 1
	default:
		width = 5
	}
	name, down, _ := strings.Cut(p, ">")
	shift, _ := strconv.Atoi(down)
	return binary(named(x, name)>>shift, width)
}

// joined is 32 digits as a word.
func joined(t testing.TB, digits string) uint32 {
	t.Helper()
	v, err := strconv.ParseUint(digits, 2, 32)
	if err != nil || len(digits) != 32 {
		t.Fatal(digits, err)
	}
	return uint32(v)
}

// meant is the word of an instruction, as the document has it.
func meant(t testing.TB, parts []string, x api.Inst) uint32 {
	t.Helper()
	var b strings.Builder
	for _, p := range parts {
		b.WriteString(spelled(x, p))
	}
	return joined(t, b.String())
}

// meantBase is the fixed bits of a class, and where they are, as the document has them.
func meantBase(t testing.TB, parts []string) (uint32, uint32) {
	t.Helper()
	var base, fixed strings.Builder
	for _, p := range parts {
		zeros := strings.Repeat("0", len(spelled(api.Inst{}, p)))
		if isFixed(p) {
			base.WriteString(p)
			fixed.WriteString(strings.ReplaceAll(zeros, "0", "1"))
		} else {
			base.WriteString(zeros)
			fixed.WriteString(zeros)
		}
	}
	return joined(t, base.String()), joined(t, fixed.String())
}

// values are numbers of a field: all of a short one; of a long one its edges, and such as have each bit; a few of registers.
func values(op int, l api.Limit) []int64 {
	var out []int64
	switch {
	case op == api.OpLogImm && l.Field == api.FdA:
		for _, width := range []int{32, 64} {
			for _, v := range logimm.All(width) {
				out = append(out, int64(v))
			}
		}
		return append(out, 0, -1, 5)
	case l.Field >= api.FdRd && l.Field <= api.FdRa && l.Most == 31:
		return []int64{0, 10, 31}
	case l.Most-l.Least <= 64:
		for v := l.Least; v <= l.Most; v++ {
			out = append(out, v)
		}
		return out
	}
	out = []int64{l.Least, l.Least + 1, l.Most - 1, l.Most, 0, 1, -1, 3, -3}
	for bit := range 20 {
		out = append(out, 1<<bit, -1<<bit, 1<<bit-1)
	}
	out = slices.DeleteFunc(out, func(v int64) bool { return v < l.Least || v > l.Most })
	slices.Sort(out)
	return slices.Compact(out)
}

// each goes through instructions of a class within its limits, some of which there are not.
func each(op int) iter.Seq[api.Inst] {
	return func(yield func(api.Inst) bool) {
		fill(api.Inst{Op: op}, slices.Collect(inst.Limits(op)), yield)
	}
}

func fill(x api.Inst, l []api.Limit, yield func(api.Inst) bool) bool {
	if len(l) == 0 {
		return yield(x)
	}
	for _, v := range values(x.Op, l[0]) {
		y, _ := inst.With(x, l[0].Field, v)
		if !fill(y, l[1:], yield) {
			return false
		}
	}
	return true
}

// there goes through those that there are.
func there(op int) iter.Seq[api.Inst] {
	return func(yield func(api.Inst) bool) {
		for x := range each(op) {
			if inst.Check(x) == api.OK && !yield(x) {
				return
			}
		}
	}
}

// wordOf is the word of an instruction that there is.
func wordOf(t testing.TB, x api.Inst) uint32 {
	t.Helper()
	w, e := enc.Encode(x)
	if e != api.OK {
		t.Fatalf("Encode(%+v): %d", x, e)
	}
	return w
}

// P5.1: Encode, of each class: the document's word of what there is, nothing of what there is not.
func TestEncode(t *testing.T) {
	for op, parts := range rows(t) {
		good := 0
		for x := range each(op) {
			w, e := enc.Encode(x)
			if want := inst.Check(x); want != api.OK {
				if w != 0 || e != api.ErrInst {
					t.Fatalf("Encode(%+v): %08x, %d", x, w, e)
				}
				continue
			}
			good++
			if want := meant(t, parts, x); w != want || e != api.OK {
				t.Fatalf("Encode(%+v): %08x, %d, not %08x", x, w, e, want)
			}
		}
		if op > 0 && good == 0 {
			t.Errorf("class %d: none", op)
		}
	}
}

// P5.1: each number of each register, one by one.
func TestEncodeRegisters(t *testing.T) {
	for op, parts := range rows(t) {
		for l := range inst.Limits(op) {
			if l.Field < api.FdRd || l.Field > api.FdRa {
				continue
			}
			found := 0
			for x := range there(op) {
				for v := range int64(32) {
					y, _ := inst.With(x, l.Field, v)
					if inst.Check(y) == api.OK && wordOf(t, y) != meant(t, parts, y) {
						t.Fatalf("Encode(%+v): %08x", y, wordOf(t, y))
					}
				}
				if found++; found == 50 {
					break
				}
			}
		}
	}
}

// P5.1: what Check refuses: no such Op, a field that the class has not, one beyond its limits.
func TestEncodeRefuses(t *testing.T) {
	for _, op := range noOps {
		for _, x := range []api.Inst{{Op: op}, {Op: op, X: true}, {Op: op, A: 2}, {Op: op, Rn: 30, B: 2}} {
			if w, e := enc.Encode(x); w != 0 || e != api.ErrInst {
				t.Errorf("Encode(%+v): %08x, %d", x, w, e)
			}
		}
	}
	wild := []int64{1, 2, -1, 31, 32, 64, 1 << 20, 1 << 31, 1 << 32, 1<<32 + 1, -1 << 32, math.MinInt64, math.MaxInt64}
	for op := api.OpAdr; op <= api.OpDp3; op++ {
		for x := range there(op) {
			for field := api.FdX; field <= api.FdC; field++ {
				for _, v := range wild {
					y, e := inst.With(x, field, v)
					if e != api.OK || inst.Check(y) == api.OK {
						continue
					}
					if w, e := enc.Encode(y); w != 0 || e != api.ErrInst {
						t.Fatalf("Encode(%+v): %08x, %d", y, w, e)
					}
				}
			}
			break
		}
	}
	for _, x := range []api.Inst{{Op: api.OpB, Rd: 1}, {Op: api.OpAdc, Rd: math.MinInt}, {Op: api.OpAdc, Rm: math.MaxInt}, {Op: api.OpTb, C: 64}, {Op: api.OpBr, B: 4, Rn: 31}, {Op: api.OpDp3, X: true, B: 4, Ra: 31}, {Op: api.OpEx, S: true, Rm: 31}, {Op: api.OpLogImm, B: 1, A: 0}} {
		if w, e := enc.Encode(x); w != 0 || e != api.ErrInst {
			t.Errorf("Encode(%+v): %08x, %d", x, w, e)
		}
	}
}

// P5.1: Words: all words' bytes, the lowest one first, and how many words.
func TestWords(t *testing.T) {
	if b, n, e := enc.Words(); len(b) != 0 || n != 0 || e != api.OK {
		t.Errorf("Words(): %x, %d, %d", b, n, e)
	}
	add := api.Inst{Op: api.OpAddReg, X: true, Rn: 1, Rm: 2}
	ret := api.Inst{Op: api.OpBr, B: 2, Rn: 30}
	if b, n, e := enc.Words(add); string(b) != "\x20\x00\x02\x8b" || n != 1 || e != api.OK {
		t.Errorf("Words(add): %x, %d, %d", b, n, e)
	}
	if b, n, e := enc.Words(ret, add, ret); string(b) != "\xc0\x03\x5f\xd6\x20\x00\x02\x8b\xc0\x03\x5f\xd6" || n != 3 || e != api.OK {
		t.Errorf("Words(ret, add, ret): %x, %d, %d", b, n, e)
	}
	var l []api.Inst
	var want []byte
	for op := api.OpAdr; op <= api.OpDp3; op++ {
		for x := range there(op) {
			l = append(l, x)
			want = append(want, bits.Bytes(wordOf(t, x))...)
			if len(l)%100 == 0 {
				break
			}
		}
	}
	if b, n, e := enc.Words(l...); !slices.Equal(b, want) || n != len(l) || e != api.OK {
		t.Errorf("Words of %d: %d bytes, %d, %d", len(l), len(b), n, e)
	}
}

// P5.1: Words: nothing, and the number of the first that Encode refuses.
func TestWordsRefuse(t *testing.T) {
	good, bad := api.Inst{Op: api.OpHint}, api.Inst{Op: api.OpBr, B: 3}
	for n := 1; n < 20; n++ {
		for at := range n {
			l := slices.Repeat([]api.Inst{good}, n)
			l[at] = bad
			for _, other := range []api.Inst{good, bad, {}} {
				l[n-1] = other
				l[at] = bad
				if b, k, e := enc.Words(l...); b != nil || k != at || e != api.ErrInst {
					t.Fatalf("Words of %d, %d of them none: %x, %d, %d", n, at, b, k, e)
				}
			}
		}
	}
}

// Words leaves what it is handed as it was, and answers bytes that are nobody else's.
func TestWordsOwn(t *testing.T) {
	l := []api.Inst{{Op: api.OpHint}, {Op: api.OpB, A: 2}}
	before := slices.Clone(l)
	first, _, _ := enc.Words(l...)
	want := slices.Clone(first)
	if !slices.Equal(l, before) {
		t.Errorf("%v became %v", before, l)
	}
	second, _, _ := enc.Words(l...)
	clear(second)
	clear(l)
	if !slices.Equal(first, want) {
		t.Errorf("%x became %x", want, first)
	}
}

// P5.2: Base, as the document's table has it.
func TestBase(t *testing.T) {
	for op, parts := range rows(t) {
		if op == 0 {
			continue
		}
		base, fixed := meantBase(t, parts)
		if b, f, e := enc.Base(op); b != base || f != fixed || e != api.OK {
			t.Errorf("Base(%d): %08x, %08x, %d, not %08x, %08x", op, b, f, e, base, fixed)
		}
	}
	for _, op := range noOps {
		if b, f, e := enc.Base(op); b != 0 || f != 0 || e != api.ErrInst {
			t.Errorf("Base(%d): %08x, %08x, %d", op, b, f, e)
		}
	}
}

// P5.2: bits that a rule makes of fields are not fixed, nor are such as the fields' limits leave alone.
func TestBaseRules(t *testing.T) {
	for _, c := range []struct {
		op          int
		base, fixed uint32
	}{
		{api.OpAdr, 0x10000000, 0x1f000000},
		{api.OpB, 0x14000000, 0x7c000000},
		{api.OpBr, 0xd61f0000, 0xfe1ffc1f},
		{api.OpExc, 0xd4000000, 0xff00001c},
		{api.OpHint, 0xd503201f, 0xfffff01f},
		{api.OpMsrImm, 0xd500401f, 0xfff8f01f},
		{api.OpPair, 0x28000000, 0x3c000000},
		{api.OpEx, 0x08000000, 0x3f000000},
		{api.OpCsel, 0x1a800000, 0x3fe00800},
		{api.OpDp1, 0x5ac00000, 0x7fff0000},
		{api.OpDp2, 0x1ac00000, 0x7fe00000},
		{api.OpDp3, 0x1b000000, 0x7f000000},
	} {
		if b, f, e := enc.Base(c.op); b != c.base || f != c.fixed || e != api.OK {
			t.Errorf("Base(%d): %08x, %08x, %d", c.op, b, f, e)
		}
	}
}

// meantFields are the runs of bits that are not fixed, from the highest on.
func meantFields(fixed uint32) []api.Field {
	var l []api.Field
	for at := 31; at >= 0; at-- {
		switch {
		case fixed>>at&1 == 1:
		case at < 31 && fixed>>(at+1)&1 == 0:
			last := &l[len(l)-1]
			last.Low, last.Width = at, last.Width+1
		default:
			l = append(l, api.Field{Low: at, Width: 1})
		}
	}
	return l
}

// P5.2: Fields: all runs of each class, falling; none of a class that there is not.
func TestFields(t *testing.T) {
	for op, parts := range rows(t) {
		if op == 0 {
			continue
		}
		_, fixed := meantBase(t, parts)
		if got, want := slices.Collect(enc.Fields(op)), meantFields(fixed); !slices.Equal(got, want) {
			t.Errorf("Fields(%d): %v, not %v", op, got, want)
		}
	}
	for op, want := range map[int][]api.Field{
		api.OpB:      {{Low: 31, Width: 1}, {Low: 0, Width: 26}},
		api.OpAdr:    {{Low: 29, Width: 3}, {Low: 0, Width: 24}},
		api.OpMsrImm: {{Low: 16, Width: 3}, {Low: 5, Width: 7}},
		api.OpEx:     {{Low: 30, Width: 2}, {Low: 0, Width: 24}},
		api.OpCcmp:   {{Low: 30, Width: 2}, {Low: 11, Width: 10}, {Low: 5, Width: 5}, {Low: 0, Width: 4}},
	} {
		if got := slices.Collect(enc.Fields(op)); !slices.Equal(got, want) {
			t.Errorf("Fields(%d): %v, not %v", op, got, want)
		}
	}
	for _, op := range noOps {
		for f := range enc.Fields(op) {
			t.Errorf("Fields(%d) tells %v", op, f)
		}
	}
}

// P5.2: a range over Fields may stop at any point, and be done again; two go on beside each other.
func TestFieldsStop(t *testing.T) {
	for op := api.OpAdr; op <= api.OpDp3; op++ {
		s := enc.Fields(op)
		want := slices.Collect(s)
		for stop := 1; stop <= len(want); stop++ {
			var got []api.Field
			for f := range s {
				if got = append(got, f); len(got) == stop {
					break
				}
			}
			if !slices.Equal(got, want[:stop]) {
				t.Fatalf("Fields(%d), stopped behind %d: %v", op, stop, got)
			}
		}
		for range s {
			if inner := slices.Collect(s); !slices.Equal(inner, want) {
				t.Fatalf("Fields(%d) within Fields: %v", op, inner)
			}
		}
	}
}

// distances are the classes whose A is one: of how many bits.
var distances = map[int]int{api.OpAdr: 21, api.OpBCond: 19, api.OpB: 26, api.OpCb: 19, api.OpTb: 14, api.OpLdLit: 19}

// placed is a word with a distance in it, as the document's table has it.
func placed(w uint32, op int, a int64) uint32 {
	put := func(low, width int, v int64) {
		ones := uint32(1)<<width - 1
		w = w&^(ones<<low) | uint32(v)&ones<<low
	}
	switch op {
	case api.OpAdr:
		put(29, 2, a)
		put(5, 19, a>>2)
	case api.OpB:
		put(0, 26, a)
	case api.OpTb:
		put(5, 14, a)
	default:
		put(5, 19, a)
	}
	return w
}

// P5.3: Sets: a distance within A's bits, at its edges and beyond, whatever else stands in the word.
func TestSets(t *testing.T) {
	words := []uint32{0, math.MaxUint32, 0x12345678, 0x87654321, 0xaaaaaaaa, 0x55555555, 0x14000000, 0xd65f03c0}
	for op, width := range distances {
		most := int64(1)<<(width-1) - 1
		far := []int64{0, 1, 2, 3, 4, 5, -1, -2, -3, -4, -5, most, most - 1, most - 4, -most, -most - 1, most / 3, -most / 3}
		for bit := range width - 1 {
			far = append(far, 1<<bit, -1<<bit)
		}
		for _, w := range words {
			for _, a := range far {
				if got, e := enc.Sets(w, op, a); got != placed(w, op, a) || e != api.OK {
					t.Fatalf("Sets(%08x, %d, %d): %08x, %d", w, op, a, got, e)
				}
			}
			for _, a := range []int64{most + 1, most + 2, -most - 2, -most - 3, 2*most + 1, 2 * (most + 1), 1 << 26, 1 << 31, 1 << 32, -1 << 32, 1<<32 + 1, math.MaxInt64, math.MinInt64, math.MinInt64 + 1} {
				if got, e := enc.Sets(w, op, a); got != 0 || e != api.ErrRange {
					t.Fatalf("Sets(%08x, %d, %d): %08x, %d", w, op, a, got, e)
				}
			}
		}
	}
}

// P5.3: Sets of all other classes, and of none: ErrInst, also with a distance that fits nowhere.
func TestSetsNone(t *testing.T) {
	ops := slices.Clone(noOps)
	for op := api.OpAdr; op <= api.OpDp3; op++ {
		if _, is := distances[op]; !is {
			ops = append(ops, op)
		}
	}
	if len(ops) != len(noOps)+26 {
		t.Fatal(len(ops))
	}
	for _, op := range ops {
		for _, a := range []int64{0, 1, -1, 1 << 26, math.MaxInt64, math.MinInt64} {
			if w, e := enc.Sets(0x14000000, op, a); w != 0 || e != api.ErrInst {
				t.Errorf("Sets(.., %d, %d): %08x, %d", op, a, w, e)
			}
		}
	}
}

// P5.4: no two instructions have one word.
func TestEachItsOwn(t *testing.T) {
	of := map[uint32]api.Inst{}
	for op := api.OpAdr; op <= api.OpDp3; op++ {
		for x := range there(op) {
			w := wordOf(t, x)
			if y, is := of[w]; is && y != x {
				t.Fatalf("%08x: %+v and %+v", w, x, y)
			}
			of[w] = x
			if again := wordOf(t, x); again != w {
				t.Fatalf("%+v: %08x and %08x", x, w, again)
			}
		}
	}
	if len(of) < 100000 {
		t.Error(len(of))
	}
}

// common is the bits that all words of a class have alike, and where they are.
func common(t testing.TB, op int) (uint32, uint32) {
	t.Helper()
	ones, zeros := uint32(math.MaxUint32), uint32(math.MaxUint32)
	for x := range there(op) {
		w := wordOf(t, x)
		ones &= w
		zeros &^= w
	}
	return ones, ones | zeros
}

// P5.4: words of two classes are never one: what all words of a class have alike tells them apart.
func TestClassesApart(t *testing.T) {
	var ones, alike [api.OpDp3 + 1]uint32
	for op := api.OpAdr; op <= api.OpDp3; op++ {
		ones[op], alike[op] = common(t, op)
		for other := api.OpAdr; other < op; other++ {
			if (ones[op]^ones[other])&alike[op]&alike[other] == 0 {
				t.Errorf("classes %d and %d may have one word", other, op)
			}
		}
	}
}

// P5.5: a word has its class's Base; Fields and what is fixed are all bits, apart.
func TestFixedIsFixed(t *testing.T) {
	for op := api.OpAdr; op <= api.OpDp3; op++ {
		base, fixed, e := enc.Base(op)
		if e != api.OK || base&^fixed != 0 {
			t.Fatalf("Base(%d): %08x, %08x, %d", op, base, fixed, e)
		}
		for x := range there(op) {
			if w := wordOf(t, x); w&fixed != base {
				t.Fatalf("%+v: %08x is not %08x where %08x is", x, w, base, fixed)
			}
		}
		fields := slices.Collect(enc.Fields(op))
		all := fixed
		for _, f := range fields {
			ones := uint32(bits.Ones(f.Width)) << f.Low
			if all&ones != 0 {
				t.Errorf("class %d: %v is not apart", op, f)
			}
			all |= ones
		}
		if all != math.MaxUint32 || !bits.Apart(fields...) {
			t.Errorf("class %d: %08x, %v", op, all, fields)
		}
	}
}

// P5.6: an instruction with another distance is its word with that distance.
func TestDistanceSet(t *testing.T) {
	for op, width := range distances {
		most := int64(1)<<(width-1) - 1
		for x := range there(op) {
			w := wordOf(t, x)
			for _, a := range []int64{0, 1, -1, 2, -2, most, -most - 1, most / 5, -most / 7} {
				y, _ := inst.With(x, api.FdA, a)
				if set, e := enc.Sets(w, op, a); set != wordOf(t, y) || e != api.OK {
					t.Fatalf("Sets(%08x, %d, %d): %08x, %d, not of %+v", w, op, a, set, e, y)
				}
			}
			if same, e := enc.Sets(w, op, x.A); same != w || e != api.OK {
				t.Fatalf("Sets(%08x, %d, %d): %08x, %d", w, op, x.A, same, e)
			}
		}
	}
}

// The document's examples.
func TestExamples(t *testing.T) {
	for w, x := range map[uint32]api.Inst{
		0x8b020020: {Op: api.OpAddReg, X: true, Rn: 1, Rm: 2},
		0x14000002: {Op: api.OpB, A: 2},
		0xd65f03c0: {Op: api.OpBr, B: 2, Rn: 30},
		0xb2401fe0: {Op: api.OpLogImm, X: true, B: 1, Rn: 31, A: 255},
	} {
		if got := wordOf(t, x); got != w {
			t.Errorf("%+v: %08x, not %08x", x, got, w)
		}
	}
}
