package dec_test

import (
	"strings"
	"testing"

	"cooper/api"
	"cooper/inst"
	"cooper/logimm"
)

// row is words of a class: what all of them have alike, and their bits from bit 31 down. Letters are fields' bits: x X, s S, d Rd, n Rn, m Rm, r Ra, A, B, C (each from its highest bit on), L the two lowest bits of A, i the field of a logical immediate.
type row struct {
	x    api.Inst
	bits string
}

// table is the document's table of words: a class has as many rows as its rules have cases.
var table = []row{
	{api.Inst{Op: api.OpAdr}, "x LL 10000 AAAAAAAAAAAAAAAAAAA ddddd"},
	{api.Inst{Op: api.OpAddImm}, "x B s 100010 C AAAAAAAAAAAA nnnnn ddddd"},
	{api.Inst{Op: api.OpLogImm}, "x BB 100100 i iiiiii iiiiii nnnnn ddddd"},
	{api.Inst{Op: api.OpMovWide}, "x BB 100101 CC AAAAAAAAAAAAAAAA ddddd"},
	{api.Inst{Op: api.OpBitfield}, "0 BB 100110 0 AAAAAA CCCCCC nnnnn ddddd"},
	{api.Inst{Op: api.OpBitfield, X: true}, "1 BB 100110 1 AAAAAA CCCCCC nnnnn ddddd"},
	{api.Inst{Op: api.OpExtract}, "0 00100111 0 0 mmmmm AAAAAA nnnnn ddddd"},
	{api.Inst{Op: api.OpExtract, X: true}, "1 00100111 1 0 mmmmm AAAAAA nnnnn ddddd"},
	{api.Inst{Op: api.OpBCond}, "01010100 AAAAAAAAAAAAAAAAAAA 0 BBBB"},
	{api.Inst{Op: api.OpB}, "s 00101 AAAAAAAAAAAAAAAAAAAAAAAAAA"},
	{api.Inst{Op: api.OpCb}, "x 011010 B AAAAAAAAAAAAAAAAAAA ddddd"},
	{api.Inst{Op: api.OpTb}, "C 011011 B CCCCC AAAAAAAAAAAAAA ddddd"},
	{api.Inst{Op: api.OpBr}, "1101011 0000 11111000000 nnnnn 00000"},
	{api.Inst{Op: api.OpBr, B: 1}, "1101011 0001 11111000000 nnnnn 00000"},
	{api.Inst{Op: api.OpBr, B: 2}, "1101011 0010 11111000000 nnnnn 00000"},
	{api.Inst{Op: api.OpBr, B: 4}, "1101011 0100 11111000000 11111 00000"},
	{api.Inst{Op: api.OpExc}, "11010100 000 AAAAAAAAAAAAAAAA 000 01"},
	{api.Inst{Op: api.OpExc, B: 1}, "11010100 000 AAAAAAAAAAAAAAAA 000 10"},
	{api.Inst{Op: api.OpExc, B: 2}, "11010100 000 AAAAAAAAAAAAAAAA 000 11"},
	{api.Inst{Op: api.OpExc, B: 3}, "11010100 001 AAAAAAAAAAAAAAAA 000 00"},
	{api.Inst{Op: api.OpExc, B: 4}, "11010100 010 AAAAAAAAAAAAAAAA 000 00"},
	{api.Inst{Op: api.OpExc, B: 5}, "11010100 101 AAAAAAAAAAAAAAAA 000 01"},
	{api.Inst{Op: api.OpExc, B: 6}, "11010100 101 AAAAAAAAAAAAAAAA 000 10"},
	{api.Inst{Op: api.OpExc, B: 7}, "11010100 101 AAAAAAAAAAAAAAAA 000 11"},
	{api.Inst{Op: api.OpHint}, "11010101000000110010 AAAAAAA 11111"},
	{api.Inst{Op: api.OpBar}, "11010101000000110011 AAAA BBB 11111"},
	{api.Inst{Op: api.OpSysReg}, "1101010100 B 1 AAAAAAAAAAAAAAA ddddd"},
	{api.Inst{Op: api.OpMsrImm}, "1101010100000 000 0100 AAAA 101 11111"},
	{api.Inst{Op: api.OpMsrImm, B: 1}, "1101010100000 011 0100 AAAA 110 11111"},
	{api.Inst{Op: api.OpMsrImm, B: 2}, "1101010100000 011 0100 AAAA 111 11111"},
	{api.Inst{Op: api.OpMsrImm, B: 3}, "1101010100000 000 0100 AAAA 100 11111"},
	{api.Inst{Op: api.OpMsrImm, B: 4}, "1101010100000 000 0100 AAAA 011 11111"},
	{api.Inst{Op: api.OpMsrImm, B: 5}, "1101010100000 011 0100 AAAA 010 11111"},
	{api.Inst{Op: api.OpSys}, "1101010100 B 01 AAAAAAAAAAAAAA ddddd"},
	{api.Inst{Op: api.OpLdLit}, "BB 011000 AAAAAAAAAAAAAAAAAAA ddddd"},
	{api.Inst{Op: api.OpPair}, "BB 1010 CCC s AAAAAAA rrrrr nnnnn ddddd"},
	{api.Inst{Op: api.OpLdImm}, "BB 111001 CC AAAAAAAAAAAA nnnnn ddddd"},
	{api.Inst{Op: api.OpLdIdx}, "BB 111000 CC 0 AAAAAAAAA rr nnnnn ddddd"},
	{api.Inst{Op: api.OpLdReg}, "BB 111000 CC 1 mmmmm AAA s 10 nnnnn ddddd"},
	{api.Inst{Op: api.OpEx}, "BB 001000 0 0 0 mmmmm x 11111 nnnnn ddddd"},
	{api.Inst{Op: api.OpEx, S: true}, "BB 001000 0 1 0 11111 x 11111 nnnnn ddddd"},
	{api.Inst{Op: api.OpEx, A: 1}, "BB 001000 0 0 1 mmmmm x rrrrr nnnnn ddddd"},
	{api.Inst{Op: api.OpEx, A: 1, S: true}, "BB 001000 0 1 1 11111 x rrrrr nnnnn ddddd"},
	{api.Inst{Op: api.OpEx, A: 2}, "BB 001000 1 0 0 11111 x 11111 nnnnn ddddd"},
	{api.Inst{Op: api.OpEx, A: 2, S: true}, "BB 001000 1 1 0 11111 x 11111 nnnnn ddddd"},
	{api.Inst{Op: api.OpLogReg}, "x BB 01010 CC s mmmmm AAAAAA nnnnn ddddd"},
	{api.Inst{Op: api.OpAddReg}, "x B s 01011 CC 0 mmmmm AAAAAA nnnnn ddddd"},
	{api.Inst{Op: api.OpAddExt}, "x B s 01011001 mmmmm CCC AAA nnnnn ddddd"},
	{api.Inst{Op: api.OpAdc}, "x B s 11010000 mmmmm 000000 nnnnn ddddd"},
	{api.Inst{Op: api.OpCcmp}, "x B 111010010 mmmmm CCCC s 0 nnnnn 0 AAAA"},
	{api.Inst{Op: api.OpCsel}, "x B 011010100 mmmmm AAAA 0 B nnnnn ddddd"},
	{api.Inst{Op: api.OpDp1}, "x 1011010110 00000 BBBBBB nnnnn ddddd"},
	{api.Inst{Op: api.OpDp2}, "x 0011010110 mmmmm BBBBBB nnnnn ddddd"},
	{api.Inst{Op: api.OpDp3}, "x 0011011 000 mmmmm 0 rrrrr nnnnn ddddd"},
	{api.Inst{Op: api.OpDp3, B: 1}, "x 0011011 000 mmmmm 1 rrrrr nnnnn ddddd"},
	{api.Inst{Op: api.OpDp3, B: 2}, "x 0011011 001 mmmmm 0 rrrrr nnnnn ddddd"},
	{api.Inst{Op: api.OpDp3, B: 3}, "x 0011011 001 mmmmm 1 rrrrr nnnnn ddddd"},
	{api.Inst{Op: api.OpDp3, B: 4}, "x 0011011 010 mmmmm 0 11111 nnnnn ddddd"},
	{api.Inst{Op: api.OpDp3, B: 5}, "x 0011011 101 mmmmm 0 rrrrr nnnnn ddddd"},
	{api.Inst{Op: api.OpDp3, B: 6}, "x 0011011 101 mmmmm 1 rrrrr nnnnn ddddd"},
	{api.Inst{Op: api.OpDp3, B: 7}, "x 0011011 110 mmmmm 0 11111 nnnnn ddddd"},
}

// letters are those of the fields, by the fields' numbers; behind them L and i.
const letters = ".xsdnmrABCLi"

const (
	lowest  = api.FdC + 1
	logical = api.FdC + 2
)

// form is a row that words are held against.
type form struct {
	x      api.Inst
	base   uint32
	ones   uint32
	at     [len(letters)][]int // the bits of each letter, from the highest on
	signed bool
}

// forms are the rows of the table.
func forms(t testing.TB) []form {
	t.Helper()
	var all []form
	for _, r := range table {
		f := form{x: r.x}
		digits := strings.ReplaceAll(r.bits, " ", "")
		if len(digits) != 32 {
			t.Fatal(r.bits)
		}
		for i, c := range digits {
			at := 31 - i
			switch c {
			case '1':
				f.base |= 1 << at
				fallthrough
			case '0':
				f.ones |= 1 << at
			default:
				n := strings.IndexRune(letters, c)
				f.at[n] = append(f.at[n], at)
			}
		}
		for l := range inst.Limits(r.x.Op) {
			f.signed = f.signed || l.Field == api.FdA && l.Least < 0
		}
		all = append(all, f)
	}
	return all
}

// gathered is bits of a word, the first one being the highest.
func gathered(w uint32, at []int) int64 {
	v := int64(0)
	for _, n := range at {
		v = v<<1 | int64(w>>n&1)
	}
	return v
}

// fits tells whether a word has the row's fixed bits.
func (f *form) fits(w uint32) bool { return w&f.ones == f.base }

// of is what the bits of a word that fits are in this row, and whether there is such an instruction.
func (f *form) of(w uint32) (api.Inst, bool) {
	x := f.x
	for field := api.FdX; field <= api.FdC; field++ {
		if len(f.at[field]) == 0 {
			continue
		}
		v := gathered(w, f.at[field])
		if field == api.FdA && f.signed && v>>(len(f.at[field])-1) == 1 {
			v -= 1 << len(f.at[field])
		}
		x, _ = inst.With(x, field, v)
	}
	if low := f.at[lowest]; len(low) != 0 {
		x.A = x.A*4 + gathered(w, low)
	}
	if field := f.at[logical]; len(field) != 0 {
		v, e := logimm.Value(int(gathered(w, field)), map[bool]int{false: 32, true: 64}[x.X])
		if e != api.OK {
			return api.Inst{}, false
		}
		x.A = int64(v)
	}
	return x, inst.Check(x) == api.OK
}

// meant is the instruction of a word, and whether there is one, as the document has it; no two rows may have one.
func meant(t testing.TB, all []form, w uint32) (api.Inst, bool) {
	var found api.Inst
	for i := range all {
		if !all[i].fits(w) {
			continue
		}
		x, is := all[i].of(w)
		if is && found != (api.Inst{}) {
			t.Fatalf("%08x: %+v and %+v", w, found, x)
		}
		if is {
			found = x
		}
	}
	return found, found != api.Inst{}
}
