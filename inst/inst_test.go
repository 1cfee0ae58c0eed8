package inst_test

import (
	"iter"
	"math"
	"reflect"
	"slices"
	"strconv"
	"strings"
	"testing"

	"cooper/api"
	"cooper/inst"
	"cooper/logimm"
)

// told is what the document has of each class's fields, word by word.
const told = `OpAdr | X, Rd, A -2^20 to 2^20 - 1
OpAddImm | X, S, Rd, Rn, A 0 to 4095, B 0 to 1, C 0 to 1
OpLogImm | X, Rd, Rn, A any, B 0 to 3
OpMovWide | X, Rd, A 0 to 65535, B 0 to 3, C 0 to 3
OpBitfield | X, Rd, Rn, A 0 to 63, B 0 to 2, C 0 to 63
OpExtract | X, Rd, Rn, Rm, A 0 to 63
OpBCond | A -2^18 to 2^18 - 1, B 0 to 15
OpB | S, A -2^25 to 2^25 - 1
OpCb | X, Rd, A -2^18 to 2^18 - 1, B 0 to 1
OpTb | Rd, A -2^13 to 2^13 - 1, B 0 to 1, C 0 to 63
OpBr | Rn, B 0 to 4
OpExc | A 0 to 65535, B 0 to 7
OpHint | A 0 to 127
OpBar | A 0 to 15, B 2 to 6
OpSysReg | Rd, A 0 to 32767, B 0 to 1
OpMsrImm | A 0 to 15, B 0 to 5
OpSys | Rd, A 0 to 16383, B 0 to 1
OpLdLit | Rd, A -2^18 to 2^18 - 1, B 0 to 3
OpPair | S, Rd, Rn, Ra, A -64 to 63, B 0 to 2, C 0 to 3
OpLdImm | Rd, Rn, A 0 to 4095, B 0 to 3, C 0 to 3
OpLdIdx | Rd, Rn, Ra 0 to 3, A -256 to 255, B 0 to 3, C 0 to 3
OpLdReg | S, Rd, Rn, Rm, A 2 to 7, B 0 to 3, C 0 to 3
OpEx | X, S, Rd, Rn, Rm, Ra, A 0 to 2, B 0 to 3
OpLogReg | X, S, Rd, Rn, Rm, A 0 to 63, B 0 to 3, C 0 to 3
OpAddReg | X, S, Rd, Rn, Rm, A 0 to 63, B 0 to 1, C 0 to 2
OpAddExt | X, S, Rd, Rn, Rm, A 0 to 4, B 0 to 1, C 0 to 7
OpAdc | X, S, Rd, Rn, Rm, B 0 to 1
OpCcmp | X, S, Rn, Rm, A 0 to 15, B 0 to 1, C 0 to 15
OpCsel | X, Rd, Rn, Rm, A 0 to 15, B 0 to 3
OpDp1 | X, Rd, Rn, B 0 to 5
OpDp2 | X, Rd, Rn, Rm, B 2 to 23
OpDp3 | X, Rd, Rn, Rm, Ra, B 0 to 7`

var fieldNames = []string{"Op", "X", "S", "Rd", "Rn", "Rm", "Ra", "A", "B", "C"}

// noOps are numbers of no class, noFields of no field.
var (
	noOps    = []int{0, -1, -2, 33, 34, 64, 255, 256 + api.OpB, 1<<16 + api.OpAdr, 1<<32 + api.OpAdr, 1<<32 + api.OpB, math.MinInt, math.MinInt + api.OpB, math.MaxInt}
	noFields = []int{0, -1, -9, 10, 11, 16, 256 + api.FdX, 1<<32 + api.FdA, math.MinInt, math.MinInt + api.FdB, math.MaxInt}
)

// wild are numbers that a field may be handed, though no class has most of them.
var wild = []int64{0, 1, 2, 3, 4, 5, 7, 15, 31, 32, 63, 64, 4095, 4096, 65535, 65536, -1, -2, -64, -65, -256, 1<<31 - 1, 1 << 31, 1<<32 - 1, 1 << 32, 1<<32 + 1, -1 << 31, -1<<31 - 1, -1 << 32, math.MinInt64, math.MaxInt64}

// draws is a fixed row of numbers that look like drawn ones.
type draws uint64

func (d *draws) next() uint64 {
	*d += 0x9e3779b97f4a7c15
	z := uint64(*d)
	z = (z ^ z>>30) * 0xbf58476d1ce4e5b9
	z = (z ^ z>>27) * 0x94d049bb133111eb
	return z ^ z>>31
}

func (d *draws) of(l []int64) int64 { return l[d.next()%uint64(len(l))] }

// power is a number as the document writes it: 4095, -64, 2^20 - 1, -2^20.
func power(t testing.TB, s string) int64 {
	t.Helper()
	s, less := strings.CutSuffix(s, " - 1")
	s, negative := strings.CutPrefix(s, "-")
	exponent, is := strings.CutPrefix(s, "2^")
	v, err := strconv.ParseInt(exponent, 10, 64)
	if err != nil {
		t.Fatal(s, err)
	}
	if is {
		v = 1 << v
	}
	if negative {
		v = -v
	}
	if less {
		v--
	}
	return v
}

// limit is a field as the document writes it.
func limit(t testing.TB, s string) api.Limit {
	t.Helper()
	name, how, _ := strings.Cut(s, " ")
	l := api.Limit{Field: slices.Index(fieldNames, name)}
	switch from, to, is := strings.Cut(how, " to "); {
	case is:
		l.Least, l.Most = power(t, from), power(t, to)
	case how == "any":
		l.Least, l.Most = math.MinInt64, math.MaxInt64
	case how != "" || l.Field < api.FdX:
		t.Fatal(s)
	case l.Field <= api.FdS:
		l.Most = 1
	default:
		l.Most = 31
	}
	return l
}

// document is the limits of each class, by its number.
func document(t testing.TB) [][]api.Limit {
	t.Helper()
	all := [][]api.Limit{nil}
	for line := range strings.Lines(told) {
		_, fields, _ := strings.Cut(strings.TrimSpace(line), " | ")
		var l []api.Limit
		for f := range strings.SplitSeq(fields, ", ") {
			l = append(l, limit(t, f))
		}
		all = append(all, l)
	}
	if len(all) != api.OpDp3+1 {
		t.Fatal(len(all))
	}
	return all
}

// at is a field of x in another way than the program reads it: api.Inst has its fields in the order of their numbers.
func at(x api.Inst, field int) int64 {
	switch v := reflect.ValueOf(x).Field(field); v.Kind() {
	case reflect.Bool:
		if v.Bool() {
			return 1
		}
		return 0
	default:
		return v.Int()
	}
}

// put is x with a number in a field, likewise.
func put(x api.Inst, field int, n int64) api.Inst {
	switch v := reflect.ValueOf(&x).Elem().Field(field); v.Kind() {
	case reflect.Bool:
		v.SetBool(n != 0)
	default:
		v.SetInt(n)
	}
	return x
}

func TestFieldsOfInst(t *testing.T) {
	for i, name := range fieldNames {
		if got := reflect.TypeFor[api.Inst]().Field(i).Name; got != name {
			t.Fatalf("field %d of api.Inst is %s", i, got)
		}
	}
}

// without are the document's words of what there is not, clause by clause.
var without = map[int][]func(x api.Inst) bool{
	api.OpMovWide: {
		func(x api.Inst) bool { return x.B == 1 },
		func(x api.Inst) bool { return !x.X && x.C > 1 },
	},
	api.OpBitfield: {
		func(x api.Inst) bool { return !x.X && x.A > 31 },
		func(x api.Inst) bool { return !x.X && x.C > 31 },
	},
	api.OpExtract: {func(x api.Inst) bool { return !x.X && x.A > 31 }},
	api.OpBr: {
		func(x api.Inst) bool { return x.B == 3 },
		func(x api.Inst) bool { return x.B == 4 && x.Rn != 0 },
	},
	api.OpBar: {func(x api.Inst) bool { return x.B == 3 }},
	api.OpPair: {
		func(x api.Inst) bool { return x.B == 1 && !x.S },
		func(x api.Inst) bool { return x.B == 1 && x.C == 0 },
		func(x api.Inst) bool { return x.S && x.Rd == x.Ra },
		func(x api.Inst) bool { return x.C%2 == 1 && x.Rn != 31 && x.Rn == x.Rd },
		func(x api.Inst) bool { return x.C%2 == 1 && x.Rn != 31 && x.Rn == x.Ra },
	},
	api.OpLdImm: {func(x api.Inst) bool { return x.C == 3 && (x.B == 2 || x.B == 3) }},
	api.OpLdIdx: {
		func(x api.Inst) bool { return x.C == 3 && (x.B == 2 || x.B == 3) },
		func(x api.Inst) bool { return x.C == 2 && x.B == 3 && x.Ra != 0 },
		func(x api.Inst) bool { return x.Ra == 1 && x.Rn != 31 && x.Rn == x.Rd },
		func(x api.Inst) bool { return x.Ra == 3 && x.Rn != 31 && x.Rn == x.Rd },
	},
	api.OpLdReg: {
		func(x api.Inst) bool { return x.A == 4 },
		func(x api.Inst) bool { return x.A == 5 },
		func(x api.Inst) bool { return x.C == 3 && (x.B == 2 || x.B == 3) },
	},
	api.OpEx: {
		func(x api.Inst) bool { return x.A == 1 && x.B < 2 },
		func(x api.Inst) bool { return x.A == 2 && !x.X },
		func(x api.Inst) bool { return x.Rm != 0 && x.S },
		func(x api.Inst) bool { return x.Rm != 0 && x.A == 2 },
		func(x api.Inst) bool { return x.Ra != 0 && x.A != 1 },
		func(x api.Inst) bool { return x.A == 1 && x.S && x.Rd == x.Ra },
		func(x api.Inst) bool { return !x.S && x.A < 2 && x.Rm == x.Rd },
		func(x api.Inst) bool { return !x.S && x.A < 2 && x.Rm == x.Rn && x.Rm != 31 },
		func(x api.Inst) bool { return !x.S && x.A == 1 && x.Rm == x.Ra },
	},
	api.OpLogReg: {func(x api.Inst) bool { return !x.X && x.A > 31 }},
	api.OpAddReg: {func(x api.Inst) bool { return !x.X && x.A > 31 }},
	api.OpDp1:    {func(x api.Inst) bool { return x.B == 3 && !x.X }},
	api.OpDp2: {
		func(x api.Inst) bool { return x.B >= 4 && x.B <= 7 },
		func(x api.Inst) bool { return x.B >= 12 && x.B <= 15 },
		func(x api.Inst) bool { return !x.X && (x.B == 19 || x.B == 23) },
		func(x api.Inst) bool { return x.X && x.B >= 16 && x.B <= 22 && x.B != 19 },
	},
	api.OpDp3: {
		func(x api.Inst) bool { return x.B > 1 && !x.X },
		func(x api.Inst) bool { return (x.B == 4 || x.B == 7) && x.Ra != 0 },
	},
}

// patterns are all logical immediates of 32 bits, and of 64, as A has them.
func patterns() map[bool]map[int64]bool {
	m := map[bool]map[int64]bool{false: {}, true: {}}
	for _, v := range logimm.All(32) {
		m[false][int64(v)] = true
	}
	for _, v := range logimm.All(64) {
		m[true][int64(v)] = true
	}
	return m
}

// rules asks what there is by the document's table.
type rules struct {
	limits   [][]api.Limit
	patterns map[bool]map[int64]bool
}

func newRules(t testing.TB) rules { return rules{document(t), patterns()} }

func (r rules) has(op, field int) bool {
	return slices.ContainsFunc(r.limits[op], func(l api.Limit) bool { return l.Field == field })
}

func (r rules) there(x api.Inst) bool {
	if x.Op < 1 || x.Op >= len(r.limits) {
		return false
	}
	for field := api.FdX; field <= api.FdC; field++ {
		if !r.has(x.Op, field) && at(x, field) != 0 {
			return false
		}
	}
	for _, l := range r.limits[x.Op] {
		if v := at(x, l.Field); v < l.Least || v > l.Most {
			return false
		}
	}
	for _, clause := range without[x.Op] {
		if clause(x) {
			return false
		}
	}
	return x.Op != api.OpLogImm || r.patterns[x.X][x.A]
}

// near are numbers in and about a field's limits: all of a short field, the edges of a long one.
func near(l api.Limit) []int64 {
	var out []int64
	switch {
	case l.Field <= api.FdS:
		return []int64{0, 1}
	case l.Field <= api.FdRa && l.Most == 31:
		return []int64{-1, 0, 1, 30, 31, 32}
	case l.Least == math.MinInt64:
		return []int64{math.MinInt64, math.MinInt64 + 1, -1 << 32, -1 << 31, -3, -2, -1, 0, 1, 2, 3, 5, 255, 0x55555555, 0xfffffffe, 0xffffffff, 0x100000000, 0x100000001, 0x5555555555555555, math.MaxInt64}
	case l.Most-l.Least <= 24:
		for v := l.Least - 2; v <= l.Most+2; v++ {
			out = append(out, v)
		}
	default:
		out = append(out, l.Least-1, l.Least, l.Least+1, -1, 0, 1, 30, 31, 32, l.Most-1, l.Most, l.Most+1)
		slices.Sort(out)
		out = slices.Compact(out)
	}
	return out
}

// each goes through all instructions of a class whose fields are near its limits.
func (r rules) each(op int) iter.Seq[api.Inst] {
	return func(yield func(api.Inst) bool) {
		r.fill(api.Inst{Op: op}, r.limits[op], yield)
	}
}

func (r rules) fill(x api.Inst, l []api.Limit, yield func(api.Inst) bool) bool {
	if len(l) == 0 {
		return yield(x)
	}
	for _, v := range near(l[0]) {
		if !r.fill(put(x, l[0].Field, v), l[1:], yield) {
			return false
		}
	}
	return true
}

// some are instructions that there are: of each class many.
func (r rules) some() []api.Inst {
	var out []api.Inst
	for op := api.OpAdr; op <= api.OpDp3; op++ {
		d := draws(op)
		for n := 0; n < 400; {
			x := api.Inst{Op: op}
			for _, l := range r.limits[op] {
				x = put(x, l.Field, d.of(near(l)))
			}
			if r.there(x) {
				out = append(out, x)
				n++
			}
		}
	}
	return out
}

// any are instructions of whatever fields, most of which there are not.
func (r rules) any() []api.Inst {
	out := r.some()
	d := draws(77)
	for op := -2; op <= api.OpDp3+2; op++ {
		for range 60 {
			x := api.Inst{Op: op}
			for field := api.FdX; field <= api.FdC; field++ {
				if d.next()%3 > 0 {
					x = put(x, field, d.of(wild))
				}
			}
			out = append(out, x)
		}
	}
	for _, op := range noOps {
		out = append(out, api.Inst{Op: op}, api.Inst{Op: op, X: true, S: true, Rd: 1, Rn: 2, Rm: 3, Ra: 4, A: 5, B: 6, C: 7})
	}
	return out
}

func wantErr(is bool) api.Errno {
	if is {
		return api.OK
	}
	return api.ErrInst
}

// P4.1: Check, of each class with all that is near its limits.
func TestCheck(t *testing.T) {
	r := newRules(t)
	for op := api.OpAdr; op <= api.OpDp3; op++ {
		good, bad := 0, 0
		for x := range r.each(op) {
			want := r.there(x)
			if want {
				good++
			} else {
				bad++
			}
			if e := inst.Check(x); e != wantErr(want) {
				t.Fatalf("Check(%+v): %d", x, e)
			}
		}
		if good == 0 || bad == 0 {
			t.Errorf("class %d: %d there, %d not", op, good, bad)
		}
	}
}

// P4.1: each clause of the table, by an instruction that it leaves out, and by its neighbours that there are.
func TestCheckClauses(t *testing.T) {
	for _, c := range []struct {
		bad  api.Inst
		good []api.Inst
	}{
		{api.Inst{Op: api.OpLogImm, A: -2}, []api.Inst{{Op: api.OpLogImm, A: 0xfffffffe}, {Op: api.OpLogImm, X: true, A: -2}}},
		{api.Inst{Op: api.OpLogImm, X: true, A: 0xfffffffd}, []api.Inst{{Op: api.OpLogImm, A: 0xfffffffd}, {Op: api.OpLogImm, X: true, A: -3}}},
		{api.Inst{Op: api.OpLogImm, A: 0x5555555555555555}, []api.Inst{{Op: api.OpLogImm, A: 0x55555555}, {Op: api.OpLogImm, X: true, A: 0x5555555555555555}}},
		{api.Inst{Op: api.OpLogImm, A: 1 << 32}, []api.Inst{{Op: api.OpLogImm, A: 1 << 31}, {Op: api.OpLogImm, X: true, A: 1 << 32}, {Op: api.OpLogImm, X: true, A: math.MinInt64}}},
		{api.Inst{Op: api.OpLogImm, X: true, A: -1}, []api.Inst{{Op: api.OpLogImm, X: true, A: math.MaxInt64}}},
		{api.Inst{Op: api.OpMovWide, X: true, B: 1}, []api.Inst{{Op: api.OpMovWide, X: true}, {Op: api.OpMovWide, X: true, B: 2}, {Op: api.OpMovWide, B: 3}}},
		{api.Inst{Op: api.OpMovWide, C: 2}, []api.Inst{{Op: api.OpMovWide, C: 1}, {Op: api.OpMovWide, X: true, C: 3}}},
		{api.Inst{Op: api.OpBitfield, A: 32}, []api.Inst{{Op: api.OpBitfield, A: 31, C: 31}, {Op: api.OpBitfield, X: true, A: 32}}},
		{api.Inst{Op: api.OpBitfield, C: 32}, []api.Inst{{Op: api.OpBitfield, X: true, C: 32}, {Op: api.OpBitfield, X: true, A: 63, C: 63}}},
		{api.Inst{Op: api.OpExtract, A: 32}, []api.Inst{{Op: api.OpExtract, A: 31}, {Op: api.OpExtract, X: true, A: 32}}},
		{api.Inst{Op: api.OpBr, B: 3}, []api.Inst{{Op: api.OpBr, B: 2}, {Op: api.OpBr, B: 4}}},
		{api.Inst{Op: api.OpBr, B: 4, Rn: 31}, []api.Inst{{Op: api.OpBr, B: 2, Rn: 31}}},
		{api.Inst{Op: api.OpBar, B: 3}, []api.Inst{{Op: api.OpBar, B: 2}, {Op: api.OpBar, B: 4}}},
		{api.Inst{Op: api.OpPair, Ra: 1, B: 1, C: 2}, []api.Inst{{Op: api.OpPair, S: true, Ra: 1, B: 1, C: 2}, {Op: api.OpPair, Ra: 1, B: 2, C: 2}}},
		{api.Inst{Op: api.OpPair, S: true, Ra: 1, B: 1}, []api.Inst{{Op: api.OpPair, S: true, Ra: 1, B: 2}, {Op: api.OpPair, S: true, Ra: 1, Rn: 2, B: 1, C: 1}}},
		{api.Inst{Op: api.OpPair, S: true, Rd: 31, Ra: 31}, []api.Inst{{Op: api.OpPair, Rd: 31, Ra: 31}, {Op: api.OpPair, S: true, Rd: 31, Ra: 30}}},
		{api.Inst{Op: api.OpPair, Rd: 4, Rn: 4, C: 1}, []api.Inst{{Op: api.OpPair, Rd: 4, Rn: 4, C: 2}, {Op: api.OpPair, Rd: 31, Rn: 31, C: 1}}},
		{api.Inst{Op: api.OpPair, Ra: 4, Rn: 4, C: 3}, []api.Inst{{Op: api.OpPair, Ra: 4, Rn: 4}, {Op: api.OpPair, Ra: 31, Rn: 31, C: 3}}},
		{api.Inst{Op: api.OpLdImm, B: 2, C: 3}, []api.Inst{{Op: api.OpLdImm, B: 1, C: 3}, {Op: api.OpLdImm, B: 3, C: 2}}},
		{api.Inst{Op: api.OpLdIdx, B: 3, C: 3}, []api.Inst{{Op: api.OpLdIdx, B: 1, C: 3}, {Op: api.OpLdIdx, B: 3, C: 2}}},
		{api.Inst{Op: api.OpLdIdx, Rn: 1, Ra: 2, B: 3, C: 2}, []api.Inst{{Op: api.OpLdIdx, Rn: 1, Ra: 2, B: 2, C: 2}, {Op: api.OpLdIdx, Rn: 1, B: 3, C: 2}}},
		{api.Inst{Op: api.OpLdIdx, Rd: 7, Rn: 7, Ra: 1}, []api.Inst{{Op: api.OpLdIdx, Rd: 7, Rn: 7, Ra: 2}, {Op: api.OpLdIdx, Rd: 31, Rn: 31, Ra: 1}}},
		{api.Inst{Op: api.OpLdIdx, Rd: 7, Rn: 7, Ra: 3}, []api.Inst{{Op: api.OpLdIdx, Rd: 7, Rn: 7}, {Op: api.OpLdIdx, Rd: 6, Rn: 7, Ra: 3}}},
		{api.Inst{Op: api.OpLdReg, A: 4}, []api.Inst{{Op: api.OpLdReg, A: 3}, {Op: api.OpLdReg, A: 2}}},
		{api.Inst{Op: api.OpLdReg, A: 5}, []api.Inst{{Op: api.OpLdReg, A: 6}, {Op: api.OpLdReg, A: 7}}},
		{api.Inst{Op: api.OpLdReg, A: 3, B: 2, C: 3}, []api.Inst{{Op: api.OpLdReg, A: 3, B: 1, C: 3}, {Op: api.OpLdReg, A: 3, B: 3, C: 2}}},
		{api.Inst{Op: api.OpEx, S: true, Ra: 1, A: 1, B: 1}, []api.Inst{{Op: api.OpEx, S: true, Ra: 1, A: 1, B: 2}, {Op: api.OpEx, S: true, B: 1}}},
		{api.Inst{Op: api.OpEx, A: 2, B: 3}, []api.Inst{{Op: api.OpEx, X: true, A: 2, B: 3}, {Op: api.OpEx, X: true, S: true, A: 2}}},
		{api.Inst{Op: api.OpEx, S: true, Rm: 1}, []api.Inst{{Op: api.OpEx, Rm: 1}, {Op: api.OpEx, S: true}}},
		{api.Inst{Op: api.OpEx, S: true, Rm: 31}, nil},
		{api.Inst{Op: api.OpEx, X: true, Rm: 1, A: 2}, []api.Inst{{Op: api.OpEx, X: true, Rm: 1}}},
		{api.Inst{Op: api.OpEx, Rm: 1, Ra: 2}, []api.Inst{{Op: api.OpEx, Rm: 1, Ra: 2, A: 1, B: 2}}},
		{api.Inst{Op: api.OpEx, X: true, Ra: 1, A: 2}, []api.Inst{{Op: api.OpEx, X: true, A: 2}}},
		{api.Inst{Op: api.OpEx, S: true, Rd: 5, Ra: 5, A: 1, B: 3}, []api.Inst{{Op: api.OpEx, Rd: 5, Rn: 6, Ra: 5, A: 1, B: 3}, {Op: api.OpEx, S: true, Rd: 5, Ra: 6, A: 1, B: 3}}},
		{api.Inst{Op: api.OpEx, Rd: 3, Rn: 2, Rm: 3}, []api.Inst{{Op: api.OpEx, Rd: 3, Rn: 3, Rm: 2}}},
		{api.Inst{Op: api.OpEx, Rd: 31, Rn: 2, Rm: 31}, []api.Inst{{Op: api.OpEx, Rd: 30, Rn: 31, Rm: 31}}},
		{api.Inst{Op: api.OpEx, Rd: 1, Rn: 3, Rm: 3}, []api.Inst{{Op: api.OpEx, Rd: 1, Rn: 31, Rm: 31, Ra: 2, A: 1, B: 2}, {Op: api.OpEx, X: true, A: 2}}},
		{api.Inst{Op: api.OpEx, Rd: 1, Rn: 2, Rm: 31, Ra: 31, A: 1, B: 2}, []api.Inst{{Op: api.OpEx, Rd: 1, Rn: 2, Rm: 31, Ra: 30, A: 1, B: 2}}},
		{api.Inst{Op: api.OpLogReg, A: 32}, []api.Inst{{Op: api.OpLogReg, A: 31}, {Op: api.OpLogReg, X: true, A: 63}}},
		{api.Inst{Op: api.OpAddReg, A: 32}, []api.Inst{{Op: api.OpAddReg, A: 31}, {Op: api.OpAddReg, X: true, A: 63}}},
		{api.Inst{Op: api.OpDp1, B: 3}, []api.Inst{{Op: api.OpDp1, B: 2}, {Op: api.OpDp1, X: true, B: 3}}},
		{api.Inst{Op: api.OpDp2, X: true, B: 4}, []api.Inst{{Op: api.OpDp2, X: true, B: 3}, {Op: api.OpDp2, B: 8}}},
		{api.Inst{Op: api.OpDp2, B: 12}, []api.Inst{{Op: api.OpDp2, B: 11}, {Op: api.OpDp2, B: 16}}},
		{api.Inst{Op: api.OpDp2, B: 19}, []api.Inst{{Op: api.OpDp2, X: true, B: 19}, {Op: api.OpDp2, X: true, B: 23}}},
		{api.Inst{Op: api.OpDp2, X: true, B: 20}, []api.Inst{{Op: api.OpDp2, B: 20}, {Op: api.OpDp2, B: 22}}},
		{api.Inst{Op: api.OpDp3, B: 2}, []api.Inst{{Op: api.OpDp3, B: 1}, {Op: api.OpDp3, X: true, B: 2}}},
		{api.Inst{Op: api.OpDp3, X: true, Ra: 31, B: 4}, []api.Inst{{Op: api.OpDp3, X: true, B: 4}, {Op: api.OpDp3, X: true, Ra: 31, B: 5}}},
		{api.Inst{Op: api.OpDp3, X: true, Ra: 1, B: 7}, []api.Inst{{Op: api.OpDp3, X: true, B: 7}, {Op: api.OpDp3, X: true, Ra: 1, B: 6}}},
	} {
		if e := inst.Check(c.bad); e != api.ErrInst {
			t.Errorf("Check(%+v): %d", c.bad, e)
		}
		for _, x := range c.good {
			if e := inst.Check(x); e != api.OK {
				t.Errorf("Check(%+v): %d", x, e)
			}
		}
	}
}

// P4.1: Check of all logical immediates, and of what is near to them.
func TestCheckPatterns(t *testing.T) {
	of := patterns()
	if len(of[false]) != 1302 || len(of[true]) != 5334 {
		t.Fatal(len(of[false]), len(of[true]))
	}
	for _, from := range of {
		for v := range from {
			for _, a := range []int64{v, -v, v + 1, v - 1, ^v, v ^ 1<<31, v ^ 1<<32, v ^ math.MinInt64, v | -1<<32, int64(int32(v)), v & 0xffffffff} {
				for _, x := range []bool{false, true} {
					if e := inst.Check(api.Inst{Op: api.OpLogImm, X: x, A: a}); e != wantErr(of[x][a]) {
						t.Fatalf("A %#x, X %t: %d", a, x, e)
					}
				}
			}
		}
	}
}

// P4.1: an Op that is none, and fields that a class has not.
func TestCheckOthers(t *testing.T) {
	for _, op := range noOps {
		for _, x := range []api.Inst{{Op: op}, {Op: op, X: true}, {Op: op, A: 2}, {Op: op, Rn: 30, B: 2}} {
			if e := inst.Check(x); e != api.ErrInst {
				t.Errorf("Check(%+v): %d", x, e)
			}
		}
	}
	r := newRules(t)
	for _, x := range r.some() {
		for field := api.FdX; field <= api.FdC; field++ {
			if r.has(x.Op, field) {
				continue
			}
			for _, v := range []int64{1, -1, 31, 1 << 32, math.MinInt64} {
				if y := put(x, field, v); inst.Check(y) != api.ErrInst {
					t.Fatalf("Check(%+v): no ErrInst", y)
				}
			}
		}
	}
	for _, x := range r.any() {
		if e := inst.Check(x); e != wantErr(r.there(x)) {
			t.Fatalf("Check(%+v): %d", x, e)
		}
	}
}

// P4.1: Limits: all fields of each class, rising; none of an op that there is not.
func TestLimits(t *testing.T) {
	for op, want := range document(t) {
		if got := slices.Collect(inst.Limits(op)); !slices.Equal(got, want) {
			t.Errorf("Limits(%d): %v, not %v", op, got, want)
		}
		if !slices.IsSortedFunc(want, func(a, b api.Limit) int { return a.Field - b.Field }) {
			t.Errorf("class %d: the document's fields do not rise", op)
		}
	}
	for _, op := range noOps {
		for l := range inst.Limits(op) {
			t.Errorf("Limits(%d) tells %v", op, l)
		}
	}
}

// P4.1: a range over Limits may stop at any point, and be done again; two go on beside each other.
func TestLimitsStop(t *testing.T) {
	for op, want := range document(t) {
		s := inst.Limits(op)
		for stop := 1; stop <= len(want); stop++ {
			var got []api.Limit
			for l := range s {
				if got = append(got, l); len(got) == stop {
					break
				}
			}
			if !slices.Equal(got, want[:stop]) {
				t.Fatalf("Limits(%d), stopped behind %d: %v", op, stop, got)
			}
		}
		for range s {
			if inner := slices.Collect(s); !slices.Equal(inner, want) {
				t.Fatalf("Limits(%d) within Limits: %v", op, inner)
			}
		}
	}
}

// P4.2: Get, whatever the instruction is.
func TestGet(t *testing.T) {
	for _, x := range newRules(t).any() {
		for field := api.FdX; field <= api.FdC; field++ {
			if v, e := inst.Get(x, field); v != at(x, field) || e != api.OK {
				t.Fatalf("Get(%+v, %d): %d, %d", x, field, v, e)
			}
		}
		for _, field := range noFields {
			if v, e := inst.Get(x, field); v != 0 || e != api.ErrArg {
				t.Fatalf("Get(%+v, %d): %d, %d", x, field, v, e)
			}
		}
	}
}

// fits tells whether a field takes a number, by the document's words.
func fits(field int, v int64) bool {
	switch fieldNames[field] {
	case "X", "S":
		return v == 0 || v == 1
	case "A", "B", "C":
		return true
	}
	return int64(int32(v)) == v
}

// P4.2, P4.5: With: one field is another one, all others are as they were; else nothing.
func TestWith(t *testing.T) {
	for _, x := range newRules(t).any() {
		for field := api.FdX; field <= api.FdC; field++ {
			for _, v := range wild {
				y, e := inst.With(x, field, v)
				if !fits(field, v) {
					if y != (api.Inst{}) || e != api.ErrRange {
						t.Fatalf("With(%+v, %d, %d): %+v, %d", x, field, v, y, e)
					}
					continue
				}
				if got, _ := inst.Get(y, field); got != v || y != put(x, field, v) || e != api.OK {
					t.Fatalf("With(%+v, %d, %d): %+v, %d", x, field, v, y, e)
				}
			}
		}
	}
}

// P4.2: With of a field that there is not: ErrArg, whatever else is wrong.
func TestWithNoField(t *testing.T) {
	for _, field := range noFields {
		for _, v := range wild {
			if y, e := inst.With(api.Inst{Op: api.OpB, A: 1}, field, v); y != (api.Inst{}) || e != api.ErrArg {
				t.Errorf("With(.., %d, %d): %+v, %d", field, v, y, e)
			}
		}
	}
}

// P4.2: Clean: the class's fields as they were, whatever they are, all others 0.
func TestClean(t *testing.T) {
	r := newRules(t)
	for _, x := range r.any() {
		want := api.Inst{Op: x.Op}
		if x.Op >= api.OpAdr && x.Op <= api.OpDp3 {
			for _, l := range r.limits[x.Op] {
				want = put(want, l.Field, at(x, l.Field))
			}
		}
		if got := inst.Clean(x); got != want || inst.Clean(got) != got {
			t.Fatalf("Clean(%+v): %+v", x, got)
		}
	}
	full := api.Inst{X: true, S: true, Rd: 1 << 40, Rn: -1 << 40, Rm: math.MaxInt, Ra: math.MinInt, A: math.MaxInt64, B: math.MinInt64, C: -1}
	for op := api.OpAdr; op <= api.OpDp3; op++ {
		full.Op = op
		got := inst.Clean(full)
		for field := api.FdX; field <= api.FdC; field++ {
			want := int64(0)
			if r.has(op, field) {
				want = at(full, field)
			}
			if at(got, field) != want {
				t.Errorf("Clean(%+v): %+v", full, got)
			}
		}
	}
}

// reach is a class that tells a distance: of how many bytes, from where to where.
type reach struct {
	op                int
	x                 bool
	unit, least, most int64
}

var reaches = []reach{
	{api.OpAdr, false, 1, -1048576, 1048575},
	{api.OpAdr, true, 4096, -4294967296, 4294963200},
	{api.OpBCond, false, 4, -1048576, 1048572},
	{api.OpB, false, 4, -134217728, 134217724},
	{api.OpCb, false, 4, -1048576, 1048572},
	{api.OpTb, false, 4, -32768, 32764},
	{api.OpLdLit, false, 4, -1048576, 1048572},
	{api.OpBCond, true, 4, -1048576, 1048572},
	{api.OpB, true, 4, -134217728, 134217724},
	{api.OpCb, true, 4, -1048576, 1048572},
	{api.OpTb, true, 4, -32768, 32764},
	{api.OpLdLit, true, 4, -1048576, 1048572},
}

func reachOf(op int, x bool) (reach, bool) {
	i := slices.IndexFunc(reaches, func(r reach) bool { return r.op == op && r.x == x })
	if i < 0 {
		return reach{}, false
	}
	return reaches[i], true
}

// P4.3: Reach, of all classes and of what is none.
func TestReach(t *testing.T) {
	ops := slices.Clone(noOps)
	for op := range api.OpDp3 + 2 {
		ops = append(ops, op)
	}
	for _, op := range ops {
		for _, x := range []bool{false, true} {
			want, there := reachOf(op, x)
			if least, most, is := inst.Reach(op, x); least != want.least || most != want.most || is != there {
				t.Errorf("Reach(%d, %t): %d, %d, %t", op, x, least, most, is)
			}
		}
	}
}

// P4.3, P4.6: Far, of what there is, and of what there is not.
func TestFar(t *testing.T) {
	r := newRules(t)
	tell := map[int]int{}
	for _, x := range r.any() {
		want, tells := int64(0), false
		if by, is := reachOf(x.Op, x.X); is && r.there(x) {
			want, tells = x.A*by.unit, true
			tell[x.Op]++
			if want < by.least || want > by.most {
				t.Fatalf("%+v is beyond %v", x, by)
			}
		}
		if far, is := inst.Far(x); far != want || is != tells {
			t.Fatalf("Far(%+v): %d, %t", x, far, is)
		}
	}
	if len(tell) != 6 {
		t.Error(tell)
	}
	for _, x := range []api.Inst{{Op: api.OpB, X: true, A: 2}, {Op: api.OpB, A: 1 << 25}, {Op: api.OpB, A: -1<<25 - 1}, {Op: api.OpTb, A: 1 << 13}, {Op: api.OpAdr, S: true}, {Op: api.OpAdr, X: true, A: math.MaxInt64}, {Op: api.OpCb, Rd: 32}, {Op: api.OpBCond, B: 16}, {Op: api.OpLdLit, B: 4}} {
		if far, is := inst.Far(x); far != 0 || is {
			t.Errorf("Far(%+v): %d, %t", x, far, is)
		}
	}
}

// fars are distances within reach, at its edges and beyond.
func fars(by reach) []int64 {
	l := []int64{0, 1, 2, 3, 4, 5, 6, 8, -1, -2, -3, -4, -8, 100, 4095, 4096, 4097, -4095, -4096, -4097, 8192, 1 << 40, -1 << 40, 1<<63 - 4096, math.MinInt64, math.MinInt64 + 1, math.MaxInt64, math.MaxInt64 - 3}
	for d := int64(-4097); d <= 4097; d++ {
		if d%4096 < 6 && d%4096 > -6 {
			l = append(l, by.least+d, by.most+d)
		}
	}
	return l
}

// P4.3, P4.6: Put, and Far of what it answers.
func TestPut(t *testing.T) {
	for _, x := range newRules(t).some() {
		by, tells := reachOf(x.Op, x.X)
		if !tells {
			continue
		}
		for _, far := range fars(by) {
			y, e := inst.Put(x, far)
			if far < by.least || far > by.most || far%by.unit != 0 {
				if y != (api.Inst{}) || e != api.ErrRange {
					t.Fatalf("Put(%+v, %d): %+v, %d", x, far, y, e)
				}
				continue
			}
			want := x
			want.A = far / by.unit
			if y != want || e != api.OK {
				t.Fatalf("Put(%+v, %d): %+v, %d", x, far, y, e)
			}
			if got, is := inst.Far(y); got != far || !is || inst.Check(y) != api.OK {
				t.Fatalf("Far of Put(%+v, %d): %d, %t", x, far, got, is)
			}
		}
		far, _ := inst.Far(x)
		if y, e := inst.Put(x, far); y != x || e != api.OK {
			t.Fatalf("Put of Far(%+v): %+v, %d", x, y, e)
		}
	}
}

// P4.3: Put of what there is not, and of classes without a distance: ErrInst, whatever else is wrong.
func TestPutNone(t *testing.T) {
	r := newRules(t)
	for _, x := range r.any() {
		if _, tells := reachOf(x.Op, x.X); tells && r.there(x) {
			continue
		}
		for _, far := range []int64{0, 1, 4, 4096, -8, math.MinInt64, math.MaxInt64} {
			if y, e := inst.Put(x, far); y != (api.Inst{}) || e != api.ErrInst {
				t.Fatalf("Put(%+v, %d): %+v, %d", x, far, y, e)
			}
		}
	}
	for _, x := range []api.Inst{{Op: api.OpB, A: 1 << 25}, {Op: api.OpTb, Rn: 1}, {Op: api.OpCb, B: 2}, {Op: api.OpAdr, A: 1 << 20}} {
		if y, e := inst.Put(x, 4096); y != (api.Inst{}) || e != api.ErrInst {
			t.Errorf("Put(%+v, 4096): %+v, %d", x, y, e)
		}
	}
}

// P4.4: of what Check takes each field is within Limits; Clean changes nothing.
func TestWithinLimits(t *testing.T) {
	taken := 0
	for _, x := range newRules(t).any() {
		if inst.Check(x) != api.OK {
			continue
		}
		taken++
		for l := range inst.Limits(x.Op) {
			if v, e := inst.Get(x, l.Field); v < l.Least || v > l.Most || e != api.OK {
				t.Fatalf("%+v: %d is beyond %v", x, v, l)
			}
		}
		if y := inst.Clean(x); y != x {
			t.Fatalf("Clean(%+v): %+v", x, y)
		}
	}
	if taken < 32*400 {
		t.Error(taken)
	}
}

// The document's examples.
func TestExamples(t *testing.T) {
	if far, is := inst.Far(api.Inst{Op: api.OpB, A: 2}); far != 8 || !is {
		t.Error(far, is)
	}
	if e := inst.Check(api.Inst{Op: api.OpDp1, B: 3}); e != api.ErrInst {
		t.Error(e)
	}
}
