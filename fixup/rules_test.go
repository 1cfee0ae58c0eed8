package fixup_test

import (
	"bytes"
	"fmt"
	"slices"
	"testing"

	"cooper/api"
	"cooper/fixup"
)

// The document's rules, written down a second time, in other ways: with its numbers, kind by kind, and a value by what its two names are.

// ruledHole is a row of the document's lists of holes.
type ruledHole struct {
	kind, size  int
	width       int
	plain, far  int // 0: ErrFix
	reach       bool
	least, most int64
	step        int64
	bits        []int // of near ones the distance's bits in a word, the lowest one first
}

func row(from, to int) []int {
	var l []int
	for i := from; i <= to; i++ {
		l = append(l, i)
	}
	return l
}

// ruledHoles are all holes, in order.
func ruledHoles() []ruledHole {
	return []ruledHole{
		{1, 0, 4, 282, 0, true, -134217728, 134217724, 4, row(0, 25)},
		{2, 0, 4, 283, 0, true, -134217728, 134217724, 4, row(0, 25)},
		{3, 0, 4, 280, 0, true, -1048576, 1048572, 4, row(5, 23)},
		{4, 0, 4, 279, 0, true, -32768, 32764, 4, row(5, 18)},
		{5, 0, 4, 273, 0, true, -1048576, 1048572, 4, row(5, 23)},
		{6, 0, 4, 274, 0, true, -1048576, 1048575, 1, append([]int{29, 30}, row(5, 23)...)},
		{7, 0, 4, 275, 0, false, 0, 0, 0, nil},
		{8, 0, 4, 277, 0, false, 0, 0, 0, nil},
		{9, 0, 4, 278, 0, false, 0, 0, 0, nil},
		{9, 1, 4, 284, 0, false, 0, 0, 0, nil},
		{9, 2, 4, 285, 0, false, 0, 0, 0, nil},
		{9, 3, 4, 286, 0, false, 0, 0, 0, nil},
		{10, 0, 1, 0, 0, true, -128, 255, 1, nil},
		{11, 0, 4, 258, 261, true, -2147483648, 4294967295, 1, nil},
		{12, 0, 8, 257, 260, true, -9223372036854775808, 9223372036854775807, 1, nil},
	}
}

// ruledFind is the row of a hole, if it is one.
func ruledFind(h api.Hole) (ruledHole, bool) {
	for _, x := range ruledHoles() {
		if x.kind == h.Kind && x.size == h.Size {
			return x, true
		}
	}
	return ruledHole{}, false
}

func (x ruledHole) hole() api.Hole { return api.Hole{Kind: x.kind, Size: x.size} }

func (x ruledHole) isNear() bool { return x.kind < 7 }

func (x ruledHole) isData() bool { return x.kind > 9 }

// fits tells whether v is within reach, and a multiple.
func (x ruledHole) fits(v int64) bool {
	return x.reach && !(v < x.least) && !(v > x.most) && v == v/x.step*x.step
}

// What a name in a value is.
const (
	isNone  = "none"
	isAbs   = "number"
	isOwn   = "own section"
	isOther = "other section"
	isAway  = "elsewhere"
	isLost  = "lost"
)

// ruledName is what a name is, seen from a section, its symbol, and the symbol's number (-1: the place).
func ruledName(name string, section int, off int64, syms []api.Symbol) (string, api.Symbol, int) {
	n := slices.IndexFunc(syms, func(s api.Symbol) bool { return s.Name == name })
	s := api.Symbol{Section: section, Value: off}
	switch {
	case name == "":
		return isNone, api.Symbol{}, -1
	case name == ".":
		n = -1
	case n < 0:
		return isLost, api.Symbol{}, -1
	default:
		s = syms[n]
	}
	switch s.Section {
	case -2:
		return isAbs, s, n
	case -1:
		return isAway, s, n
	case section:
		return isOwn, s, n
	}
	return isOther, s, n
}

// ruledResolve is what Resolve says: by what Plus and Minus are.
func ruledResolve(h api.Hole, section int, off int64, syms []api.Symbol) (api.Fix, api.Errno) {
	x, is := ruledFind(h)
	if !is {
		return api.Fix{}, 1
	}
	plus, p, number := ruledName(h.V.Plus, section, off, syms)
	minus, m, _ := ruledName(h.V.Minus, section, off, syms)
	n := h.V.Add
	reloc := func(kind int, addend int64) (api.Fix, api.Errno) {
		if kind == 0 || h.V.Plus == "." {
			return api.Fix{}, 180
		}
		return api.Fix{Reloc: true, R: api.Reloc{Off: off, Type: kind, Sym: number, Addend: addend}}, 0
	}
	fill := func(may bool, v int64) (api.Fix, api.Errno) {
		if !may {
			return api.Fix{}, 180
		}
		if !x.fits(v) {
			return api.Fix{}, 181
		}
		return api.Fix{Patch: true, Value: v}, 0
	}
	switch plus + " less " + minus {
	case "none less none":
		return fill(x.isData(), n)
	case "none less number":
		return fill(x.isData(), n-m.Value)
	case "number less none":
		return fill(x.isData(), n+p.Value)
	case "number less number", "own section less own section":
		return fill(x.isData(), n+(p.Value-m.Value))
	case "other section less other section":
		if p.Section == m.Section {
			return fill(x.isData(), n+(p.Value-m.Value))
		}
	case "own section less none", "own section less number":
		if !x.isNear() {
			return reloc(x.plain, n-m.Value)
		}
		return fill(true, n+p.Value-m.Value-off)
	case "other section less none", "other section less number", "elsewhere less none", "elsewhere less number":
		return reloc(x.plain, n-m.Value)
	case "other section less own section", "elsewhere less own section":
		return reloc(x.far, n+off-m.Value)
	}
	if plus == isLost || minus == isLost {
		return api.Fix{}, 4
	}
	return api.Fix{}, 180
}

// ruledFill is what Fill says: near ones bit by bit, data byte by byte.
func ruledFill(b []byte, h api.Hole, v int64) ([]byte, api.Errno) {
	x, is := ruledFind(h)
	switch {
	case !is || len(b) != x.width:
		return nil, 1
	case !x.reach:
		return nil, 180
	case !x.fits(v):
		return nil, 181
	}
	l := slices.Clone(b)
	if x.isData() {
		for i := range l {
			l[i] = byte(uint64(v) % 256)
			v = int64(uint64(v) / 256)
		}
		return l, 0
	}
	v /= x.step
	for _, bit := range x.bits {
		l[bit/8] &^= 1 << (bit % 8)
		if v%2 != 0 {
			l[bit/8] |= 1 << (bit % 8)
		}
		// Downwards, as a number below 0 ends at -1.
		v = (v - (v%2+2)%2) / 2
	}
	return l, 0
}

// ruledRead is what Read says: bit by bit, the highest one of a number with a sign counting below 0.
func ruledRead(b []byte, h api.Hole) (int64, api.Errno) {
	x, is := ruledFind(h)
	switch {
	case !is || len(b) != x.width:
		return 0, 1
	case !x.reach:
		return 0, 180
	}
	bits := x.bits
	if x.isData() {
		bits = row(0, 8*x.width-1)
	}
	v, worth := int64(0), x.step
	for i, bit := range bits {
		if i == len(bits)-1 && (x.isNear() || x.width == 8) {
			worth = -worth
		}
		if b[bit/8]>>(bit%8)%2 == 1 {
			v += worth
		}
		worth *= 2
	}
	return v, 0
}

// asked asks what is to be known of a hole, but for its value, and holds it against the rules.
func asked(t *testing.T, h api.Hole) {
	t.Helper()
	x, is := ruledFind(h)
	wrong := api.Errno(0)
	if !is {
		wrong = 1
	}
	if e := fixup.Check(h); e != wrong {
		t.Fatalf("Check of %+v: %d, not %d", h, e, wrong)
	}
	if n := fixup.Width(h); n != x.width {
		t.Fatalf("Width of %+v: %d, not %d", h, n, x.width)
	}
	if least, most, step, has := fixup.Reach(h); least != x.least || most != x.most || step != x.step || has != x.reach {
		t.Fatalf("Reach of %+v: %d, %d, %d, %t, not %d, %d, %d, %t", h, least, most, step, has, x.least, x.most, x.step, x.reach)
	}
	for far, want := range map[bool]int{false: x.plain, true: x.far} {
		e := wrong
		if is && want == 0 {
			e = 180
		}
		if kind, got := fixup.Type(h, far); kind != want || got != e {
			t.Fatalf("Type of %+v, %t: %d, %d, not %d, %d", h, far, kind, got, want, e)
		}
	}
}

// resolved holds Resolve against the rules, and against P18.6.
func resolved(t *testing.T, h api.Hole, section int, off int64, syms ...api.Symbol) (api.Fix, api.Errno) {
	t.Helper()
	was := slices.Clone(syms)
	f, e := fixup.Resolve(h, section, off, syms...)
	if want, wrong := ruledResolve(h, section, off, syms); f != want || e != wrong {
		t.Fatalf("Resolve of %+v, %d, %d, %+v: %+v, %d, not %+v, %d", h, section, off, syms, f, e, want, wrong)
	}
	if !slices.Equal(syms, was) {
		t.Fatalf("Resolve of %+v: the symbols are now %+v, not %+v", h, syms, was)
	}
	switch {
	case e != api.OK && f != api.Fix{}:
		t.Fatalf("Resolve of %+v, %d, %d, %+v: %+v beside %d", h, section, off, syms, f, e)
	case e == api.OK && f.Patch == f.Reloc:
		t.Fatalf("Resolve of %+v, %d, %d, %+v: %+v", h, section, off, syms, f)
	case f.Patch && f.R != api.Reloc{} || f.Reloc && f.Value != 0:
		t.Fatalf("Resolve of %+v, %d, %d, %+v: %+v, more than one", h, section, off, syms, f)
	}
	return f, e
}

// filled holds Fill against the rules, and against P18.4.
func filled(t *testing.T, b []byte, h api.Hole, v int64) ([]byte, api.Errno) {
	t.Helper()
	was := slices.Clone(b)
	l, e := fixup.Fill(b, h, v)
	if want, wrong := ruledFill(b, h, v); !bytes.Equal(l, want) || e != wrong || e != api.OK && l != nil {
		t.Fatalf("Fill of %x, %+v, %d: %x, %d, not %x, %d", b, h, v, l, e, want, wrong)
	}
	if e == api.OK {
		back(t, l, h, v)
		l[0] ^= 0xff
	}
	if !bytes.Equal(b, was) {
		t.Fatalf("Fill of %x, %+v, %d: it is now %x", was, h, v, b)
	}
	if e == api.OK {
		l[0] ^= 0xff
	}
	return l, e
}

// back holds Read of what Fill made against P18.4.
func back(t *testing.T, l []byte, h api.Hole, v int64) {
	t.Helper()
	switch h.Kind {
	case api.HoAbs1:
		v = int64(uint8(v))
	case api.HoAbs4:
		v = int64(uint32(v))
	}
	if n, e := read(t, l, h); n != v || e != api.OK {
		t.Fatalf("Read of %x, %+v: %d, %d, not %d", l, h, n, e, v)
	}
}

// read holds Read against the rules.
func read(t *testing.T, b []byte, h api.Hole) (int64, api.Errno) {
	t.Helper()
	was := slices.Clone(b)
	v, e := fixup.Read(b, h)
	if want, wrong := ruledRead(b, h); v != want || e != wrong {
		t.Fatalf("Read of %x, %+v: %d, %d, not %d, %d", b, h, v, e, want, wrong)
	}
	if !bytes.Equal(b, was) {
		t.Fatalf("Read of %x, %+v: it is now %x", was, h, b)
	}
	return v, e
}

// linker knows where sections begin, and where symbols elsewhere are.
type linker struct {
	begin func(section int) int64
	away  func(name string) int64
}

// address is where a symbol is, or the number that it is.
func (l linker) address(s api.Symbol) int64 {
	switch s.Section {
	case api.AbsSection:
		return s.Value
	case api.NoSection:
		return l.away(s.Name)
	}
	return l.begin(s.Section) + s.Value
}

// named is where the first symbol of a name is.
func (l linker) named(name string, section int, off int64, syms []api.Symbol) int64 {
	if name == "." {
		return l.address(api.Symbol{Name: ".", Section: section, Value: off})
	}
	for _, s := range syms {
		if s.Name == name && name != "" {
			return l.address(s)
		}
	}
	return 0
}

// meant holds what is filled in, or what a relocation says, against what the value means: P18.5.
func (l linker) meant(t *testing.T, h api.Hole, f api.Fix, section int, off int64, syms []api.Symbol) {
	t.Helper()
	place := l.named(".", section, off, syms)
	means := h.V.Add + l.named(h.V.Plus, section, off, syms) - l.named(h.V.Minus, section, off, syms)
	if x, _ := ruledFind(h); x.isNear() {
		means -= place
	}
	says := f.Value
	if f.Reloc {
		says = l.address(syms[f.R.Sym]) + f.R.Addend
		switch f.R.Type {
		case api.RlJump26, api.RlCall26, api.RlCond19, api.RlTest14, api.RlLd19, api.RlAdr21, api.RlPrel32, api.RlPrel64:
			says -= place
		}
	}
	if says != means {
		t.Fatalf("%+v, %d, %d, %+v: %+v says %d, not %d", h, section, off, syms, f, says, means)
	}
}

func text(h api.Hole) string {
	return fmt.Sprintf("%d.%d %d+%s-%s", h.Kind, h.Size, h.V.Add, h.V.Plus, h.V.Minus)
}
