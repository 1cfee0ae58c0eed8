package alias_test

import (
	"math"
	"math/rand/v2"
	"slices"
	"strings"
	"testing"

	"cooper/alias"
	"cooper/api"
	"cooper/inst"
	"cooper/logimm"
	"cooper/names"
)

// P7.1, P7.3: what Check refuses has no line: no class, fields beyond their limits, fields that the class has not, and what the Arm ARM leaves out.
func TestNoInst(t *testing.T) {
	for _, x := range []api.Inst{
		{},
		{Op: -1},
		{Op: 33},
		{Op: math.MaxInt},
		{Op: math.MinInt},
		{Op: 256 + api.OpB},
		{Op: api.OpB, X: true},
		{Op: api.OpB, A: 1 << 25},
		{Op: api.OpBr, B: 3},
		{Op: api.OpBr, B: 4, Rn: 1},
		{Op: api.OpBr, B: 5},
		{Op: api.OpBr, B: -1},
		{Op: api.OpAddReg, Rd: 32},
		{Op: api.OpAddReg, Rd: -1},
		{Op: api.OpAddReg, A: 32},
		{Op: api.OpAddReg, C: 3},
		{Op: api.OpAddExt, A: 5},
		{Op: api.OpLogImm, B: 1, Rn: 31},
		{Op: api.OpLogImm, B: 1, Rn: 31, A: -1},
		{Op: api.OpLogImm, B: 1, Rn: 31, A: 5},
		{Op: api.OpMovWide, B: 1},
		{Op: api.OpMovWide, B: 2, C: 2},
		{Op: api.OpMovWide, X: true, B: 4},
		{Op: api.OpBitfield, C: 32},
		{Op: api.OpBitfield, B: 3},
		{Op: api.OpExc, B: 8},
		{Op: api.OpHint, A: 128},
		{Op: api.OpBar, B: 3},
		{Op: api.OpBar},
		{Op: api.OpLdImm, B: 3, C: 3},
		{Op: api.OpLdIdx, B: 3, C: 2, Ra: 2},
		{Op: api.OpLdReg, A: 4},
		{Op: api.OpPair, B: 1},
		{Op: api.OpEx, A: 2},
		{Op: api.OpEx, A: 3, X: true},
		{Op: api.OpCsel, A: 16},
		{Op: api.OpDp1, B: 3},
		{Op: api.OpDp2, B: 4},
		{Op: api.OpDp2, B: 24},
		{Op: api.OpDp3, B: 2},
		{Op: api.OpDp3, X: true, B: 8},
		{Op: api.OpDp3, X: true, B: 4, Ra: 31},
	} {
		if l, e := alias.Plain(x); e != api.ErrInst || l.Name != "" || l.Opers != nil {
			t.Errorf("Plain(%+v): %+v, %d", x, l, e)
		}
		if l, e := alias.Line(x); e != api.ErrInst || l.Name != "" || l.Opers != nil {
			t.Errorf("Line(%+v): %+v, %d", x, l, e)
		}
	}
}

// P7.1, P7.3: the document's examples, and what R3 says: what is answered is nobody's else.
func TestExamples(t *testing.T) {
	reg := func(n int, x bool) api.Oper { return api.Oper{Kind: api.OrReg, R: api.Reg{N: n, X: x}} }
	num := func(v int64) api.Oper { return api.Oper{Kind: api.OrNum, V: api.Value{Add: v}} }
	for _, c := range []struct {
		x    api.Inst
		want api.Line
	}{
		{api.Inst{Op: api.OpLogReg, X: true, B: 1, Rn: 31, Rm: 1}, api.Line{Name: "mov", Opers: []api.Oper{reg(0, true), reg(1, true)}}},
		{api.Inst{Op: api.OpBitfield, B: 2, Rn: 1, A: 24, C: 23}, api.Line{Name: "lsl", Opers: []api.Oper{reg(0, false), reg(1, false), num(8)}}},
		{api.Inst{Op: api.OpAddReg, X: true, S: true, B: 1, Rd: 31, Rn: 1, Rm: 2}, api.Line{Name: "cmp", Opers: []api.Oper{reg(1, true), reg(2, true)}}},
	} {
		// What was answered first is written over: the second answer is the same.
		for range 2 {
			l, e := alias.Line(c.x)
			if e != api.OK || !equal(l, c.want) {
				t.Errorf("Line(%+v): %+v, %d", c.x, l, e)
			}
			clear(l.Opers)
		}
		first, _ := alias.Plain(c.x)
		again, _ := alias.Plain(c.x)
		clear(first.Opers)
		if !equal(again, ruledPlain(c.x)) {
			t.Errorf("Plain(%+v) became %+v", c.x, again)
		}
	}
}

// P7.1: Transfer: all sizes and kinds, and what there is not.
func TestTransfer(t *testing.T) {
	const none = "-"
	rows := [4]string{"strb strh str str", "ldrb ldrh ldr ldr", "ldrsb ldrsh ldrsw prfm", "ldrsb ldrsh - -"}
	far := []int64{math.MinInt64, math.MinInt64 + 1, -4, -1, 0, 1, 2, 3, 4, 5, 16, 1 << 32, 1 << 62, 1<<62 + 1, math.MaxInt64}
	for _, opc := range far {
		for _, size := range far {
			want, loads, long := "", false, false
			if size >= 0 && size < 4 && opc >= 0 && opc < 4 {
				if name := by(size, rows[opc]); name != none {
					want, loads, long = name, opc > 0, size == 3 || opc == 2
				}
			}
			if s, l, w := alias.Transfer(size, opc); s != want || l != loads || w != long {
				t.Errorf("Transfer(%d, %d): %q, %t, %t", size, opc, s, l, w)
			}
		}
	}
}

// P7.4: Invert: each condition's other one, and -1 of what is none.
func TestInvert(t *testing.T) {
	pairs := strings.Fields("eq ne cs cc mi pl vs vc hi ls ge lt gt le al nv")
	for i, name := range pairs {
		n, _ := names.Number(api.KdCond, name)
		other, _ := names.Number(api.KdCond, pairs[i-1+2*(1-i%2)])
		if got := alias.Invert(n); got != other {
			t.Errorf("Invert(%s): %d, not %d", name, got, other)
		}
	}
	for _, n := range []int64{-1, -2, 16, 17, 1 << 32, 256, math.MinInt64, math.MaxInt64} {
		if got := alias.Invert(n); got != -1 {
			t.Errorf("Invert(%d): %d", n, got)
		}
	}
}

// allNames are the document's names of P7.1 and P7.3, written out.
const allNames = `adr adrp add adds sub subs and orr eor ands movn movz movk sbfm bfm ubfm extr
b.eq b.ne b.cs b.cc b.mi b.pl b.vs b.vc b.hi b.ls b.ge b.lt b.gt b.le b.al b.nv b bl cbz cbnz tbz tbnz br blr ret eret
svc hvc smc brk hlt dcps1 dcps2 dcps3 hint clrex isb dsb dmb msr mrs sys sysl
ldr ldrsw prfm stp ldp ldpsw stnp ldnp
str strb strh ldrb ldrh ldrsb ldrsh stur sturb sturh ldur ldurb ldurh ldursb ldursh ldursw prfum
sttr sttrb sttrh ldtr ldtrb ldtrh ldtrsb ldtrsh ldtrsw
stxr stlxr ldxr ldaxr stxrb stlxrb ldxrb ldaxrb stxrh stlxrh ldxrh ldaxrh stxp stlxp ldxp ldaxp stlr ldar stlrb ldarb stlrh ldarh
bic orn eon bics adc adcs sbc sbcs ccmn ccmp csel csinc csinv csneg rbit rev16 rev32 rev clz cls
udiv sdiv lslv lsrv asrv rorv crc32b crc32h crc32w crc32x crc32cb crc32ch crc32cw crc32cx
madd msub smaddl smsubl smulh umaddl umsubl umulh
mov cmn cmp tst asr sxtb sxth sxtw sbfiz sbfx lsr lsl uxtb uxth ubfiz ubfx bfc bfi bfxil ror
nop yield wfe wfi sev sevl dgh esb csdb mvn neg negs ngc ngcs cset csetm cinc cinv cneg
mul mneg smull smnegl umull umnegl`

// P7.4: Names: all names, each once, rising.
func TestNames(t *testing.T) {
	want := strings.Fields(allNames)
	slices.Sort(want)
	got := slices.Collect(alias.Names())
	if !slices.Equal(got, want) {
		t.Errorf("Names: %q, not %q", got, want)
	}
	for i := 1; i < len(got); i++ {
		if got[i-1] >= got[i] {
			t.Errorf("%q ahead of %q", got[i-1], got[i])
		}
	}
}

// P7.4: a range over Names may stop at any point, and be done again; two go on beside each other.
func TestNamesStops(t *testing.T) {
	s := alias.Names()
	want := slices.Collect(s)
	for stop := 1; stop <= len(want); stop += 7 {
		var got []string
		for name := range s {
			if got = append(got, name); len(got) == stop {
				break
			}
		}
		if !slices.Equal(got, want[:stop]) {
			t.Errorf("Names, stopped behind %d: %q", stop, got)
		}
	}
	for range s {
		if got := slices.Collect(s); !slices.Equal(got, want) {
			t.Fatalf("Names within Names: %q", got)
		}
	}
}

// P7.7: the names of lines are those of Names; each of these is one of a line.
func TestNamed(t *testing.T) {
	left := map[string]bool{}
	for name := range alias.Names() {
		left[name] = true
	}
	check := func(x api.Inst, l api.Line) {
		if _, is := left[l.Name]; !is {
			t.Fatalf("%q of %+v is no name", l.Name, x)
		}
		left[l.Name] = false
	}
	for x := range usualInsts() {
		l, _ := alias.Plain(x)
		check(x, l)
		l, _ = alias.Line(x)
		check(x, l)
	}
	for name, is := range left {
		if is {
			t.Errorf("no line has %q", name)
		}
	}
}

// key is a line, as what may be a map's key.
type key struct {
	name  string
	count int
	opers [6]api.Oper
}

func keyOf(l api.Line) key {
	k := key{name: l.Name, count: len(l.Opers)}
	copy(k.opers[:], l.Opers)
	return k
}

// P7.5: two instructions have one Plain, or one Line, just if they are the same.
func TestEachItsOwn(t *testing.T) {
	plain, line := map[key]api.Inst{}, map[key]api.Inst{}
	add := func(of map[key]api.Inst, x api.Inst, l api.Line) {
		if len(l.Opers) > 6 {
			t.Fatalf("%+v has %d operands", x, len(l.Opers))
		}
		if other, is := of[keyOf(l)]; is && other != x {
			t.Errorf("%+v of %+v, and of %+v", l, x, other)
		}
		of[keyOf(l)] = x
	}
	try := func(x api.Inst) {
		l, _ := alias.Plain(x)
		add(plain, x, l)
		l, _ = alias.Line(x)
		add(line, x, l)
	}
	i := 0
	for x := range usualInsts() {
		// Of the long classes some: each has its own steps through the numbers.
		if i++; x.Op == api.OpSys && i%16 != 0 || x.Op == api.OpPair && i%8 != 0 {
			continue
		}
		try(x)
	}
	for x := range drawnInsts(75, 500) {
		try(x)
	}
}

// moveKey is what there is to a line that moves a number: a shorter key, as there are many.
type moveKey struct {
	name   string
	rd     api.Reg
	v      int64
	shift  int
	amount int
}

func moveKeyOf(l api.Line) moveKey {
	last := l.Opers[len(l.Opers)-1]
	return moveKey{l.Name, l.Opers[0].R, last.V.Add, last.Mod, last.Amt}
}

// P7.5: no two of all instructions that move a number have one line.
func TestMovesOwn(t *testing.T) {
	for _, long := range []bool{false, true} {
		of := map[moveKey]api.Inst{}
		width := 32
		if long {
			width = 64
		}
		try := func(x api.Inst) {
			l, e := alias.Line(x)
			if other, is := of[moveKeyOf(l)]; is || e != api.OK {
				t.Fatalf("%+v of %+v, and of %+v: %d", l, x, other, e)
			}
			of[moveKeyOf(l)] = x
		}
		for _, rd := range []int{0, 31} {
			for a := range int64(65536) {
				for c := range int64(width / 16) {
					try(api.Inst{Op: api.OpMovWide, X: long, Rd: rd, A: a, C: c})
					try(api.Inst{Op: api.OpMovWide, X: long, Rd: rd, A: a, B: 2, C: c})
				}
			}
			for _, v := range logimm.All(width) {
				try(api.Inst{Op: api.OpLogImm, X: long, Rd: rd, Rn: 31, A: int64(v), B: 1})
			}
		}
	}
}

// P7.4: Same: name and operands, field by field; empty and nil lists are the same.
func TestSame(t *testing.T) {
	base := func() api.Line { return api.Line{Name: "add", Opers: []api.Oper{{Kind: 1}, {Kind: 2}}} }
	changes := []func(o *api.Oper){
		func(o *api.Oper) { o.Kind = 9 },
		func(o *api.Oper) { o.R.N = 1 },
		func(o *api.Oper) { o.R.X = true },
		func(o *api.Oper) { o.R.SP = true },
		func(o *api.Oper) { o.M.N = 1 },
		func(o *api.Oper) { o.M.X = true },
		func(o *api.Oper) { o.M.SP = true },
		func(o *api.Oper) { o.Mod = 1 },
		func(o *api.Oper) { o.Amt = -1 },
		func(o *api.Oper) { o.N = 1 << 40 },
		func(o *api.Oper) { o.V.Add = 1 << 40 },
		func(o *api.Oper) { o.V.Plus = "a" },
		func(o *api.Oper) { o.V.Minus = "a" },
		func(o *api.Oper) { o.Lo = true },
		func(o *api.Oper) { o.Mode = 1 },
	}
	for i, change := range changes {
		for at := range 2 {
			a, b := base(), base()
			change(&a.Opers[at])
			if alias.Same(a, b) || alias.Same(b, a) {
				t.Errorf("change %d of operand %d is the same", i, at)
			}
			change(&b.Opers[at])
			if !alias.Same(a, b) {
				t.Errorf("change %d of operand %d in both is not the same", i, at)
			}
		}
	}
	short, more, other, turned := base(), base(), base(), base()
	short.Opers = short.Opers[:1]
	more.Opers = append(more.Opers, api.Oper{})
	other.Name = "adds"
	slices.Reverse(turned.Opers)
	for i, l := range []api.Line{short, more, other, turned, {}, {Name: "add"}} {
		if alias.Same(l, base()) || alias.Same(base(), l) || !alias.Same(l, l) {
			t.Errorf("line %d is the same", i)
		}
	}
	if !alias.Same(base(), base()) || !alias.Same(api.Line{Name: "ret"}, api.Line{Name: "ret", Opers: []api.Oper{}}) || !alias.Same(api.Line{}, api.Line{}) {
		t.Error("lines that are the same are not")
	}
}

// moveByHand is what P7.2 says, by trying all that there is.
func moveByHand(rd api.Reg, v uint64) (api.Inst, api.Errno) {
	if _, e := names.RegName(rd); e != api.OK || !rd.X && v>>32 != 0 {
		return api.Inst{}, api.ErrArg
	}
	pieces, mask := 2, uint64(1)<<32-1
	if rd.X {
		pieces, mask = 4, math.MaxUint64
	}
	for _, b := range []int64{2, 0} {
		for c := range pieces {
			at := 16 * c
			turned := v
			if b == 0 {
				turned = ^v & mask
			}
			if a := turned >> at & 0xffff; a<<at == turned && !rd.SP {
				return api.Inst{Op: api.OpMovWide, X: rd.X, Rd: rd.N, A: int64(a), B: b, C: int64(c)}, api.OK
			}
		}
	}
	width := 16 * pieces
	if _, e := logimm.Field(v, width); e != api.OK || rd.N == 31 && !rd.SP {
		return api.Inst{}, api.ErrMove
	}
	return api.Inst{Op: api.OpLogImm, X: rd.X, Rd: rd.N, Rn: 31, A: int64(v), B: 1}, api.OK
}

// moveRegs are registers, and what is none.
var moveRegs = []api.Reg{
	{}, {X: true}, {N: 30}, {N: 30, X: true}, {N: 31}, {N: 31, X: true}, {N: 31, SP: true}, {N: 31, X: true, SP: true},
	{N: 32}, {N: 32, X: true}, {N: -1}, {N: 30, SP: true}, {SP: true, X: true}, {N: math.MinInt}, {N: math.MaxInt, X: true}, {N: 1 << 32},
}

// moveValues are numbers at the edges of what moves: of one and two pieces of 16 bits and all ones but these, logical immediates, their neighbours, and drawn ones.
func moveValues() []uint64 {
	l := []uint64{0x1234567812345678, 0x12345678, 1 << 32, 1<<32 - 1, 1<<32 + 1}
	for at := 0; at < 64; at += 4 {
		for _, a := range []uint64{0, 1, 2, 5, 0x7fff, 0x8000, 0x8001, 0xfffe, 0xffff, 0x10000, 0x10001, 0x1234} {
			l = append(l, a<<at, ^(a << at), a<<at&(1<<32-1), ^(a<<at)&(1<<32-1))
		}
	}
	for _, width := range []int{32, 64} {
		for _, v := range logimm.All(width) {
			l = append(l, v, v^1, v+1)
		}
	}
	r := rand.New(rand.NewPCG(7, 2))
	for range 2000 {
		l = append(l, r.Uint64(), uint64(r.Uint32()))
	}
	return l
}

// P7.2, P7.6: Move, held against what the document says; what it answers Check takes, and its Line is mov of that register and number.
func TestMove(t *testing.T) {
	for _, rd := range moveRegs {
		for _, v := range moveValues() {
			x, e := alias.Move(rd, v)
			want, wantE := moveByHand(rd, v)
			if x != want || e != wantE {
				t.Fatalf("Move(%+v, %#x): %+v, %d, not %+v, %d", rd, v, x, e, want, wantE)
			}
			if e != api.OK {
				continue
			}
			if c := inst.Check(x); c != api.OK {
				t.Fatalf("Check of Move(%+v, %#x): %d", rd, v, c)
			}
			mov := api.Line{Name: "mov", Opers: []api.Oper{{Kind: api.OrReg, R: rd}, {Kind: api.OrNum, V: api.Value{Add: int64(v)}}}}
			if l, e := alias.Line(x); !rd.SP && (e != api.OK || !equal(l, mov)) {
				t.Fatalf("Line of Move(%+v, %#x): %+v, %d", rd, v, l, e)
			}
		}
	}
}

// P7.2: the document's order of moves, one by one.
func TestMoveOrder(t *testing.T) {
	w, x := api.Reg{N: 3}, api.Reg{N: 3, X: true}
	sp, zero := api.Reg{N: 31, X: true, SP: true}, api.Reg{N: 31, X: true}
	for _, c := range []struct {
		rd   api.Reg
		v    uint64
		want api.Inst
		e    api.Errno
	}{
		{x, 0, api.Inst{Op: api.OpMovWide, X: true, Rd: 3, B: 2}, api.OK},
		{x, 0xffff << 48, api.Inst{Op: api.OpMovWide, X: true, Rd: 3, A: 0xffff, B: 2, C: 3}, api.OK},
		{x, 0x10000, api.Inst{Op: api.OpMovWide, X: true, Rd: 3, A: 1, B: 2, C: 1}, api.OK},
		{x, math.MaxUint64, api.Inst{Op: api.OpMovWide, X: true, Rd: 3}, api.OK},
		{x, 0xffff1234ffffffff, api.Inst{Op: api.OpMovWide, X: true, Rd: 3, A: 0xedcb, C: 2}, api.OK},
		{x, 0xffffffff, api.Inst{Op: api.OpLogImm, X: true, Rd: 3, Rn: 31, A: 0xffffffff, B: 1}, api.OK},
		{x, 0x5555555555555555, api.Inst{Op: api.OpLogImm, X: true, Rd: 3, Rn: 31, A: 0x5555555555555555, B: 1}, api.OK},
		{x, 0xaaaaaaaaaaaaaaaa, api.Inst{Op: api.OpLogImm, X: true, Rd: 3, Rn: 31, A: -0x5555555555555556, B: 1}, api.OK},
		{x, 0x12345678, api.Inst{}, api.ErrMove},
		{w, 0xffffffff, api.Inst{Op: api.OpMovWide, Rd: 3}, api.OK},
		{w, 0xffff0000, api.Inst{Op: api.OpMovWide, Rd: 3, A: 0xffff, B: 2, C: 1}, api.OK},
		{w, 0xfffe0000, api.Inst{Op: api.OpMovWide, Rd: 3, A: 0xfffe, B: 2, C: 1}, api.OK},
		{w, 0x1234ffff, api.Inst{Op: api.OpMovWide, Rd: 3, A: 0xedcb, C: 1}, api.OK},
		{w, 0xff00ff00, api.Inst{Op: api.OpLogImm, Rd: 3, Rn: 31, A: 0xff00ff00, B: 1}, api.OK},
		{w, 0x12345678, api.Inst{}, api.ErrMove},
		{w, 1 << 32, api.Inst{}, api.ErrArg},
		{w, math.MaxUint64, api.Inst{}, api.ErrArg},
		{zero, 7, api.Inst{Op: api.OpMovWide, X: true, Rd: 31, A: 7, B: 2}, api.OK},
		{zero, 0x5555555555555555, api.Inst{}, api.ErrMove},
		{sp, 7, api.Inst{Op: api.OpLogImm, X: true, Rd: 31, Rn: 31, A: 7, B: 1}, api.OK},
		{sp, 0, api.Inst{}, api.ErrMove},
		{sp, 5, api.Inst{}, api.ErrMove},
		{sp, math.MaxUint64, api.Inst{}, api.ErrMove},
		{api.Reg{N: 31, SP: true}, 1 << 32, api.Inst{}, api.ErrArg},
		{api.Reg{N: 32, X: true}, 7, api.Inst{}, api.ErrArg},
		{api.Reg{N: 3, X: true, SP: true}, 7, api.Inst{}, api.ErrArg},
	} {
		if x, e := alias.Move(c.rd, c.v); x != c.want || e != c.e {
			t.Errorf("Move(%+v, %#x): %+v, %d, not %+v, %d", c.rd, c.v, x, e, c.want, c.e)
		}
	}
}
