package fixup_test

import (
	"bytes"
	"math"
	"slices"
	"strings"
	"testing"
	"time"

	"cooper/api"
	"cooper/bits"
	"cooper/enc"
	"cooper/fixup"
)

func hole(kind int) api.Hole { return api.Hole{Kind: kind} }

func load(size int) api.Hole { return api.Hole{Kind: api.HoLd12, Size: size} }

func of(h api.Hole, add int64, plus, minus string) api.Hole {
	h.V = api.Value{Add: add, Plus: plus, Minus: minus}
	return h
}

func patch(v int64) api.Fix { return api.Fix{Patch: true, Value: v} }

func reloc(kind int, off int64, sym int, addend int64) api.Fix {
	return api.Fix{Reloc: true, R: api.Reloc{Off: off, Type: kind, Sym: sym, Addend: addend}}
}

var (
	nears = []int{api.HoB26, api.HoCall26, api.HoCond19, api.HoTst14, api.HoLd19, api.HoAdr21}
	datas = []int{api.HoAbs1, api.HoAbs4, api.HoAbs8}
)

func pages() []api.Hole {
	return []api.Hole{hole(api.HoAdrp21), hole(api.HoAdd12), load(0), load(1), load(2), load(3)}
}

// P18.1: which holes there are, by kind and size, and what is to be known of each.
func TestCheck(t *testing.T) {
	for _, kind := range []int{math.MinInt, -1, 0, 1, 2, 3, 4, 5, 6, 7, 8, 9, 10, 11, 12, 13, 14, 9 + 1<<32, math.MaxInt} {
		for _, size := range []int{math.MinInt, -1, 0, 1, 2, 3, 4, 5, 8, 1 << 32, math.MaxInt} {
			h := api.Hole{Kind: kind, Size: size}
			want := api.ErrArg
			if kind >= 1 && kind <= 12 && size == 0 || kind == 9 && size >= 0 && size <= 3 {
				want = api.OK
			}
			if e := fixup.Check(h); e != want {
				t.Errorf("Check of %+v: %d, not %d", h, e, want)
			}
			asked(t, h)
			// A value changes nothing.
			asked(t, of(h, 5, "a", "."))
			asked(t, of(h, math.MinInt64, "\x00 \xff", strings.Repeat("b", 1000)))
		}
	}
}

// P18.1: how many bytes each hole has, and by which relocation it is filled.
func TestType(t *testing.T) {
	for _, c := range []struct {
		h          api.Hole
		width      int
		plain, far int
	}{
		{hole(api.HoB26), 4, api.RlJump26, 0},
		{hole(api.HoCall26), 4, api.RlCall26, 0},
		{hole(api.HoCond19), 4, api.RlCond19, 0},
		{hole(api.HoTst14), 4, api.RlTest14, 0},
		{hole(api.HoLd19), 4, api.RlLd19, 0},
		{hole(api.HoAdr21), 4, api.RlAdr21, 0},
		{hole(api.HoAdrp21), 4, api.RlPage21, 0},
		{hole(api.HoAdd12), 4, api.RlAdd12, 0},
		{load(0), 4, api.RlLdst8, 0},
		{load(1), 4, api.RlLdst16, 0},
		{load(2), 4, api.RlLdst32, 0},
		{load(3), 4, api.RlLdst64, 0},
		{hole(api.HoAbs1), 1, 0, 0},
		{hole(api.HoAbs4), 4, api.RlAbs32, api.RlPrel32},
		{hole(api.HoAbs8), 8, api.RlAbs64, api.RlPrel64},
	} {
		if n := fixup.Width(c.h); n != c.width {
			t.Errorf("Width of %+v: %d, not %d", c.h, n, c.width)
		}
		for far, want := range map[bool]int{false: c.plain, true: c.far} {
			wrong := api.OK
			if want == 0 {
				wrong = api.ErrFix
			}
			if kind, e := fixup.Type(c.h, far); kind != want || e != wrong {
				t.Errorf("Type of %+v, %t: %d, %d, not %d, %d", c.h, far, kind, e, want, wrong)
			}
		}
	}
	for _, h := range []api.Hole{{}, hole(13), load(4), {Kind: api.HoB26, Size: 1}} {
		for _, far := range []bool{false, true} {
			if kind, e := fixup.Type(h, far); kind != 0 || e != api.ErrArg {
				t.Errorf("Type of %+v, %t: %d, %d", h, far, kind, e)
			}
		}
		if n := fixup.Width(h); n != 0 {
			t.Errorf("Width of %+v: %d", h, n)
		}
	}
}

// P18.1: which numbers are filled in.
func TestReach(t *testing.T) {
	for _, c := range []struct {
		kind        int
		least, most int64
		step        int64
	}{
		{api.HoB26, -1 << 27, 1<<27 - 4, 4},
		{api.HoCall26, -1 << 27, 1<<27 - 4, 4},
		{api.HoCond19, -1 << 20, 1<<20 - 4, 4},
		{api.HoTst14, -1 << 15, 1<<15 - 4, 4},
		{api.HoLd19, -1 << 20, 1<<20 - 4, 4},
		{api.HoAdr21, -1 << 20, 1<<20 - 1, 1},
		{api.HoAbs1, -128, 255, 1},
		{api.HoAbs4, -1 << 31, 1<<32 - 1, 1},
		{api.HoAbs8, math.MinInt64, math.MaxInt64, 1},
	} {
		if least, most, step, is := fixup.Reach(hole(c.kind)); least != c.least || most != c.most || step != c.step || !is {
			t.Errorf("Reach of %d: %d, %d, %d, %t", c.kind, least, most, step, is)
		}
	}
	for _, h := range append(pages(), api.Hole{}, hole(13), load(4), load(-1), api.Hole{Kind: api.HoAbs8, Size: 3}) {
		if least, most, step, is := fixup.Reach(h); least != 0 || most != 0 || step != 0 || is {
			t.Errorf("Reach of %+v: %d, %d, %d, %t", h, least, most, step, is)
		}
	}
}

// P18.1: all holes, in order; as often as they are asked for, and up to where one stops.
func TestHoles(t *testing.T) {
	var want []api.Hole
	for _, x := range ruledHoles() {
		want = append(want, x.hole())
	}
	all := fixup.Holes()
	for range 2 {
		if l := slices.Collect(all); !slices.Equal(l, want) {
			t.Fatalf("Holes: %+v, not %+v", l, want)
		}
	}
	for stop := range want {
		var l []api.Hole
		for h := range all {
			l = append(l, h)
			if len(l) == stop+1 {
				break
			}
		}
		if !slices.Equal(l, want[:stop+1]) {
			t.Errorf("Holes up to the %d.: %+v", stop, l)
		}
	}
}

// symbols are those of the tests of Resolve, whose place is byte 8 of section 0, mostly.
func symbols() []api.Symbol {
	return []api.Symbol{
		{Name: "a", Section: 0, Value: 16},
		{Name: "b", Section: 0, Value: 64, Global: true},
		{Name: "d", Section: 1, Value: 8},
		{Name: "e", Section: 1, Value: 20, Global: true},
		{Name: "f", Section: 2, Value: 1},
		{Name: "n", Section: api.AbsSection, Value: 5},
		{Name: "m", Section: api.AbsSection, Value: -7, Global: true},
		{Name: "x", Section: api.NoSection, Global: true},
		{Name: "y", Section: api.NoSection, Global: true},
		{Name: "a", Section: api.NoSection, Value: 1000, Global: true},
		{Name: "odd", Section: -3, Value: 12},
		{Name: ".", Section: 1, Value: 4000},
		{Name: "", Section: 1, Value: 4000},
	}
}

// P18.2: what each hole's value comes to: filled in, a relocation, or neither.
func TestResolve(t *testing.T) {
	b, bl, tb, adr, adrp := hole(api.HoB26), hole(api.HoCall26), hole(api.HoTst14), hole(api.HoAdr21), hole(api.HoAdrp21)
	abs1, abs4, abs8 := hole(api.HoAbs1), hole(api.HoAbs4), hole(api.HoAbs8)
	none := api.Fix{}
	for _, c := range []struct {
		h    api.Hole
		want api.Fix
		e    api.Errno
	}{
		// Numbers alone.
		{of(abs1, 255, "", ""), patch(255), api.OK},
		{of(abs1, 256, "", ""), none, api.ErrReach},
		{of(abs1, -128, "", ""), patch(-128), api.OK},
		{of(abs1, -129, "", ""), none, api.ErrReach},
		{of(abs4, 1<<32-1, "", ""), patch(1<<32 - 1), api.OK},
		{of(abs4, 1<<32, "", ""), none, api.ErrReach},
		{of(abs4, -1<<31, "", ""), patch(-1 << 31), api.OK},
		{of(abs4, -1<<31-1, "", ""), none, api.ErrReach},
		{of(abs8, math.MaxInt64, "", ""), patch(math.MaxInt64), api.OK},
		{of(abs8, math.MinInt64, "", ""), patch(math.MinInt64), api.OK},
		{of(b, 0, "", ""), none, api.ErrFix},
		{of(adr, 1, "", ""), none, api.ErrFix},
		{of(b, math.MinInt64, "", ""), none, api.ErrFix},
		{of(adrp, 0, "", ""), none, api.ErrFix},
		{of(load(3), 8, "", ""), none, api.ErrFix},
		// Symbols that are numbers.
		{of(abs1, 250, "n", ""), patch(255), api.OK},
		{of(abs1, 251, "n", ""), none, api.ErrReach},
		{of(abs1, 260, "", "n"), patch(255), api.OK},
		{of(abs1, 0, "m", "n"), patch(-12), api.OK},
		{of(abs8, 1, "n", "n"), patch(1), api.OK},
		{of(abs8, math.MaxInt64, "n", ""), patch(math.MinInt64 + 4), api.OK},
		{of(abs8, math.MinInt64, "", "n"), patch(math.MaxInt64 - 4), api.OK},
		{of(b, 0, "n", ""), none, api.ErrFix},
		{of(adrp, 0, "n", ""), none, api.ErrFix},
		{of(b, 1, "a", "n"), patch(4), api.OK},
		{of(b, 0, "a", "n"), none, api.ErrReach},
		{of(abs4, 0, "x", "n"), reloc(api.RlAbs32, 8, 7, -5), api.OK},
		{of(abs4, 0, "n", "a"), none, api.ErrFix},
		{of(abs8, 0, "n", "x"), none, api.ErrFix},
		// Both of one section.
		{of(abs1, 1, "b", "a"), patch(49), api.OK},
		{of(abs1, 1, "a", "."), patch(9), api.OK},
		{of(abs1, 0, ".", "a"), patch(-8), api.OK},
		{of(abs1, 3, ".", "."), patch(3), api.OK},
		{of(abs1, 0, "e", "d"), patch(12), api.OK},
		{of(abs4, 0, "d", "e"), patch(-12), api.OK},
		{of(abs4, 0, "odd", "odd"), patch(0), api.OK},
		{of(abs1, 208, "b", "a"), none, api.ErrReach},
		{of(b, 0, "b", "a"), none, api.ErrFix},
		{of(adrp, 0, "b", "a"), none, api.ErrFix},
		// Less what is of this section.
		{of(abs4, 0, "x", "."), reloc(api.RlPrel32, 8, 7, 0), api.OK},
		{of(abs4, 3, "x", "a"), reloc(api.RlPrel32, 8, 7, -5), api.OK},
		{of(abs8, 0, "d", "b"), reloc(api.RlPrel64, 8, 2, -56), api.OK},
		{of(abs8, 1, "f", "."), reloc(api.RlPrel64, 8, 4, 1), api.OK},
		{of(abs8, 0, "odd", "a"), reloc(api.RlPrel64, 8, 10, -8), api.OK},
		{of(abs8, math.MinInt64, "x", "a"), reloc(api.RlPrel64, 8, 7, math.MaxInt64-7), api.OK},
		{of(abs1, 0, "x", "."), none, api.ErrFix},
		{of(b, 0, "x", "."), none, api.ErrFix},
		{of(adr, 0, "d", "a"), none, api.ErrFix},
		{of(adrp, 0, "x", "a"), none, api.ErrFix},
		{of(load(2), 0, "x", "a"), none, api.ErrFix},
		{of(abs8, 0, "", "."), none, api.ErrFix},
		{of(abs8, 0, "", "a"), none, api.ErrFix},
		{of(abs8, 0, "n", "."), none, api.ErrFix},
		{of(b, 0, "", "a"), none, api.ErrFix},
		// Less what is elsewhere.
		{of(abs8, 0, "a", "d"), none, api.ErrFix},
		{of(abs8, 0, "x", "d"), none, api.ErrFix},
		{of(abs8, 0, "a", "x"), none, api.ErrFix},
		{of(abs8, 0, "x", "x"), none, api.ErrFix},
		{of(abs8, 0, "x", "y"), none, api.ErrFix},
		{of(abs8, 0, ".", "x"), none, api.ErrFix},
		{of(abs8, 0, "", "x"), none, api.ErrFix},
		{of(abs8, 0, "f", "e"), none, api.ErrFix},
		{of(abs8, 0, "d", "odd"), none, api.ErrFix},
		// One alone, near, and of this section.
		{of(b, 0, "a", ""), patch(8), api.OK},
		{of(bl, -16, "a", ""), patch(-8), api.OK},
		{of(tb, 0, ".", ""), patch(0), api.OK},
		{of(tb, -12, ".", ""), patch(-12), api.OK},
		{of(b, 2, "a", ""), none, api.ErrReach},
		{of(adr, 3, "a", ""), patch(11), api.OK},
		{of(tb, 1<<15-12, "a", ""), patch(1<<15 - 4), api.OK},
		{of(tb, 1<<15-8, "a", ""), none, api.ErrReach},
		{of(tb, -1<<15-8, "a", ""), patch(-1 << 15), api.OK},
		{of(tb, -1<<15-12, "a", ""), none, api.ErrReach},
		// One alone, and elsewhere, or not near.
		{of(bl, 0, "d", ""), reloc(api.RlCall26, 8, 2, 0), api.OK},
		{of(bl, 1, "x", ""), reloc(api.RlCall26, 8, 7, 1), api.OK},
		{of(b, math.MaxInt64, "y", ""), reloc(api.RlJump26, 8, 8, math.MaxInt64), api.OK},
		{of(hole(api.HoCond19), 0, "odd", ""), reloc(api.RlCond19, 8, 10, 0), api.OK},
		{of(tb, 0, "f", ""), reloc(api.RlTest14, 8, 4, 0), api.OK},
		{of(hole(api.HoLd19), 0, "x", ""), reloc(api.RlLd19, 8, 7, 0), api.OK},
		{of(adr, 5, "x", ""), reloc(api.RlAdr21, 8, 7, 5), api.OK},
		{of(adrp, 3, "a", ""), reloc(api.RlPage21, 8, 0, 3), api.OK},
		{of(hole(api.HoAdd12), -3, "b", ""), reloc(api.RlAdd12, 8, 1, -3), api.OK},
		{of(load(0), 0, "a", ""), reloc(api.RlLdst8, 8, 0, 0), api.OK},
		{of(load(1), 0, "d", ""), reloc(api.RlLdst16, 8, 2, 0), api.OK},
		{of(load(2), 0, "x", ""), reloc(api.RlLdst32, 8, 7, 0), api.OK},
		{of(load(3), 1, "y", ""), reloc(api.RlLdst64, 8, 8, 1), api.OK},
		{of(abs8, 1, "a", ""), reloc(api.RlAbs64, 8, 0, 1), api.OK},
		{of(abs4, 1<<40, "x", ""), reloc(api.RlAbs32, 8, 7, 1<<40), api.OK},
		{of(abs1, 0, "a", ""), none, api.ErrFix},
		{of(abs1, 0, "x", ""), none, api.ErrFix},
		{of(abs8, 0, ".", ""), none, api.ErrFix},
		{of(adrp, 0, ".", ""), none, api.ErrFix},
		{of(load(0), 0, ".", ""), none, api.ErrFix},
		// Names that none has, and holes that there are not.
		{of(b, 8, "q", ""), none, api.ErrNone},
		{of(abs8, 0, "", "q"), none, api.ErrNone},
		{of(abs8, 0, "x", "q"), none, api.ErrNone},
		{of(abs8, 0, "q", "x"), none, api.ErrNone},
		{of(abs8, 0, "q", "q"), none, api.ErrNone},
		{of(abs1, 0, "A", ""), none, api.ErrNone},
		{of(abs1, 0, "a ", ""), none, api.ErrNone},
		{of(api.Hole{}, 0, "q", ""), none, api.ErrArg},
		{of(hole(13), 0, "a", ""), none, api.ErrArg},
		{of(load(4), 0, "a", ""), none, api.ErrArg},
		{of(api.Hole{Kind: api.HoAbs8, Size: 3}, 0, "", ""), none, api.ErrArg},
	} {
		if f, e := resolved(t, c.h, 0, 8, symbols()...); f != c.want || e != c.e {
			t.Errorf("Resolve of %s: %+v, %d, not %+v, %d", text(c.h), f, e, c.want, c.e)
		}
	}
}

// P18.2: a place in a section that is a number, or elsewhere, or odd.
func TestResolveOddSection(t *testing.T) {
	b, abs8 := hole(api.HoB26), hole(api.HoAbs8)
	none := api.Fix{}
	for _, c := range []struct {
		h       api.Hole
		section int
		want    api.Fix
		e       api.Errno
	}{
		{of(abs8, 1, ".", ""), api.AbsSection, patch(9), api.OK},
		{of(abs8, 1, "", "."), api.AbsSection, patch(-7), api.OK},
		{of(b, 1, ".", ""), api.AbsSection, none, api.ErrFix},
		{of(b, 0, "n", ""), api.AbsSection, none, api.ErrFix},
		{of(b, 0, "a", "."), api.AbsSection, reloc(api.RlJump26, 8, 0, -8), api.OK},
		{of(abs8, 0, "x", "a"), api.AbsSection, none, api.ErrFix},
		{of(abs8, 1, ".", ""), api.NoSection, none, api.ErrFix},
		{of(abs8, 1, ".", "."), api.NoSection, none, api.ErrFix},
		{of(abs8, 1, "a", "."), api.NoSection, none, api.ErrFix},
		{of(abs8, 1, ".", "x"), api.NoSection, none, api.ErrFix},
		{of(abs8, 1, "a", "x"), api.NoSection, none, api.ErrFix},
		{of(b, 0, "x", ""), api.NoSection, reloc(api.RlJump26, 8, 7, 0), api.OK},
		{of(b, 0, ".", ""), api.NoSection, none, api.ErrFix},
		{of(b, 0, "odd", ""), -3, patch(4), api.OK},
		{of(b, 0, ".", ""), -3, patch(0), api.OK},
		{of(abs8, 0, "x", "odd"), -3, reloc(api.RlPrel64, 8, 7, -4), api.OK},
		{of(abs8, 0, ".", "odd"), -3, patch(-4), api.OK},
		{of(b, 0, "d", ""), 1, patch(0), api.OK},
		{of(b, 0, "a", ""), 1, reloc(api.RlJump26, 8, 0, 0), api.OK},
		{of(abs8, 0, "a", "e"), 1, reloc(api.RlPrel64, 8, 0, -12), api.OK},
		{of(b, 0, "a", ""), math.MaxInt, reloc(api.RlJump26, 8, 0, 0), api.OK},
		{of(b, 4, ".", ""), math.MinInt, patch(4), api.OK},
	} {
		if f, e := resolved(t, c.h, c.section, 8, symbols()...); f != c.want || e != c.e {
			t.Errorf("Resolve of %s in %d: %+v, %d, not %+v, %d", text(c.h), c.section, f, e, c.want, c.e)
		}
	}
}

// P18.2, P18.5, P18.6: each hole with each pair of names, in each kind of section, wherever a linker puts all.
func TestResolveAll(t *testing.T) {
	r := random()
	names := []string{"", ".", "a", "b", "d", "e", "f", "n", "m", "x", "y", "odd", "q"}
	l := drawnLinker(r)
	l.away = func(name string) int64 { return int64(len(name)) << 60 >> name[0] }
	for _, x := range ruledHoles() {
		for _, section := range []int{0, 1, 2, 3, -1, -2, -3} {
			for _, plus := range names {
				for _, minus := range names {
					for _, add := range []int64{0, 1, 4, 256, -4, 1 << 40, math.MinInt64} {
						h := of(x.hole(), add, plus, minus)
						if f, e := resolved(t, h, section, 8, symbols()...); e == api.OK {
							l.meant(t, h, f, section, 8, symbols())
						}
					}
					resolved(t, of(x.hole(), 8, plus, minus), section, math.MinInt64)
				}
			}
		}
	}
}

// P18.2: how far a near hole reaches: from one end to the other, and no further; only multiples.
func TestResolveReach(t *testing.T) {
	for _, x := range ruledHoles() {
		if !x.isNear() {
			continue
		}
		for _, off := range []int64{0, 8, 1 << 20, -4, math.MaxInt64, math.MinInt64} {
			for more := int64(-9); more <= 9; more++ {
				for _, from := range []int64{x.least, 0, x.most} {
					far := from + more
					want, wrong := patch(far), api.OK
					if far < x.least || far > x.most || far%x.step != 0 {
						want, wrong = api.Fix{}, api.ErrReach
					}
					h := of(x.hole(), -5, "a", "")
					if f, e := resolved(t, h, 3, off, api.Symbol{Name: "a", Section: 3, Value: off + far + 5}); f != want || e != wrong {
						t.Errorf("Resolve of %s, %d on: %+v, %d", text(h), far, f, e)
					}
				}
			}
		}
	}
}

// P18.2: of symbols of one name the first one counts, however many there are.
func TestResolveFirst(t *testing.T) {
	h := of(hole(api.HoAbs8), 0, "a", "b")
	l := []api.Symbol{{Name: "b"}, {Name: "a", Value: 3}, {Name: "a", Value: 4}, {Name: "b", Value: 5}}
	if f, e := resolved(t, h, 7, 0, l...); f != patch(3) || e != api.OK {
		t.Errorf("Resolve of %s: %+v, %d", text(h), f, e)
	}
	h = of(hole(api.HoAbs8), 0, "a", "")
	if f, e := resolved(t, h, 0, 1, l...); f != reloc(api.RlAbs64, 1, 1, 0) || e != api.OK {
		t.Errorf("Resolve of %s: %+v, %d", text(h), f, e)
	}
	if f, e := resolved(t, h, 0, 1); f != (api.Fix{}) || e != api.ErrNone {
		t.Errorf("Resolve of %s without symbols: %+v, %d", text(h), f, e)
	}
	many := slices.Repeat([]api.Symbol{{Name: strings.Repeat("a", 300)}}, 1<<18)
	many = append(many, l...)
	begin := time.Now()
	if f, e := resolved(t, h, 0, 1, many...); f != reloc(api.RlAbs64, 1, 1<<18+1, 0) || e != api.OK {
		t.Errorf("Resolve of %s, many: %+v, %d", text(h), f, e)
	}
	if took := time.Since(begin); took > 20*time.Second {
		t.Errorf("Resolve of %s, many, took %v", text(h), took)
	}
}

// P18.3: what is filled in.
func TestFill(t *testing.T) {
	word := func(w uint32) []byte { return bits.Bytes(w) }
	ones := []byte{0xff, 0xff, 0xff, 0xff}
	for _, c := range []struct {
		b    []byte
		h    api.Hole
		v    int64
		want []byte
		e    api.Errno
	}{
		{word(0x14000000), hole(api.HoB26), 8, word(0x14000002), api.OK},
		{word(0x94000000), hole(api.HoCall26), -4, word(0x97ffffff), api.OK},
		{word(0), hole(api.HoB26), -1 << 27, word(0x02000000), api.OK},
		{word(0), hole(api.HoB26), 1<<27 - 4, word(0x01ffffff), api.OK},
		{word(0), hole(api.HoB26), 1 << 27, nil, api.ErrReach},
		{word(0), hole(api.HoCall26), -1<<27 - 4, nil, api.ErrReach},
		{word(0), hole(api.HoCall26), 2, nil, api.ErrReach},
		{word(0), hole(api.HoCall26), -2, nil, api.ErrReach},
		{word(0x54000001), hole(api.HoCond19), -8, word(0x54ffffc1), api.OK},
		{word(0xb4000003), hole(api.HoCond19), 1<<20 - 4, word(0xb47fffe3), api.OK},
		{word(0), hole(api.HoCond19), 1 << 20, nil, api.ErrReach},
		{word(0), hole(api.HoCond19), 1, nil, api.ErrReach},
		{word(0xb7f80002), hole(api.HoTst14), -1 << 15, word(0xb7fc0002), api.OK},
		{word(0x36000000), hole(api.HoTst14), 4, word(0x36000020), api.OK},
		{word(0), hole(api.HoTst14), -1<<15 - 4, nil, api.ErrReach},
		{word(0x58000000), hole(api.HoLd19), 16, word(0x58000080), api.OK},
		{word(0), hole(api.HoLd19), 3, nil, api.ErrReach},
		{word(0x10000000), hole(api.HoAdr21), 5, word(0x30000020), api.OK},
		{word(0x10000007), hole(api.HoAdr21), -1, word(0x70ffffe7), api.OK},
		{word(0), hole(api.HoAdr21), -1 << 20, word(0x00800000), api.OK},
		{word(0), hole(api.HoAdr21), 1<<20 - 1, word(0x607fffe0), api.OK},
		{word(0), hole(api.HoAdr21), 1 << 20, nil, api.ErrReach},
		{ones, hole(api.HoB26), 0, word(0xfc000000), api.OK},
		{ones, hole(api.HoCond19), 0, word(0xff00001f), api.OK},
		{ones, hole(api.HoTst14), 0, word(0xfff8001f), api.OK},
		{ones, hole(api.HoLd19), 0, word(0xff00001f), api.OK},
		{ones, hole(api.HoAdr21), 0, word(0x9f00001f), api.OK},
		{[]byte{7}, hole(api.HoAbs1), -1, []byte{255}, api.OK},
		{[]byte{7}, hole(api.HoAbs1), 255, []byte{255}, api.OK},
		{[]byte{7}, hole(api.HoAbs1), -128, []byte{128}, api.OK},
		{[]byte{7}, hole(api.HoAbs1), 256, nil, api.ErrReach},
		{[]byte{7}, hole(api.HoAbs1), -129, nil, api.ErrReach},
		{ones, hole(api.HoAbs4), 0x12345678, []byte{0x78, 0x56, 0x34, 0x12}, api.OK},
		{ones, hole(api.HoAbs4), -2, []byte{0xfe, 0xff, 0xff, 0xff}, api.OK},
		{ones, hole(api.HoAbs4), 1 << 32, nil, api.ErrReach},
		{ones, hole(api.HoAbs4), -1<<31 - 1, nil, api.ErrReach},
		{make([]byte, 8), hole(api.HoAbs8), 0x123456789abcdef, []byte{0xef, 0xcd, 0xab, 0x89, 0x67, 0x45, 0x23, 1}, api.OK},
		{make([]byte, 8), hole(api.HoAbs8), math.MinInt64, []byte{0, 0, 0, 0, 0, 0, 0, 0x80}, api.OK},
		{word(0), hole(api.HoAdrp21), 0, nil, api.ErrFix},
		{word(0), hole(api.HoAdd12), 0, nil, api.ErrFix},
		{word(0), load(2), math.MaxInt64, nil, api.ErrFix},
		{[]byte{0}, load(0), 0, nil, api.ErrArg},
		{nil, hole(api.HoAbs1), 1000, nil, api.ErrArg},
		{nil, hole(api.HoB26), 1, nil, api.ErrArg},
		{nil, api.Hole{}, 0, nil, api.ErrArg},
		{word(0), load(4), 0, nil, api.ErrArg},
		{word(0), api.Hole{Kind: api.HoB26, Size: 1}, 0, nil, api.ErrArg},
	} {
		l, e := filled(t, c.b, c.h, c.v)
		if !bytes.Equal(l, c.want) || e != c.e {
			t.Errorf("Fill of %x, %+v, %d: %x, %d, not %x, %d", c.b, c.h, c.v, l, e, c.want, c.e)
		}
	}
}

// P18.3: each hole with as many bytes as there are not of it.
func TestLengths(t *testing.T) {
	for _, x := range append(ruledHoles(), ruledHole{}) {
		for n := range 20 {
			b := make([]byte, n)
			filled(t, b, x.hole(), 0)
			read(t, b, x.hole())
			if _, e := fixup.Fill(b, x.hole(), math.MaxInt64); n != x.width && e != api.ErrArg {
				t.Errorf("Fill of %d bytes, %+v: %d", n, x.hole(), e)
			}
		}
		filled(t, nil, x.hole(), 0)
		read(t, nil, x.hole())
	}
}

// P18.3, P18.4: each bit of each hole, among zeros and among ones.
func TestBits(t *testing.T) {
	for _, x := range ruledHoles() {
		for _, rest := range []byte{0, 0xff, 0xa5} {
			b := bytes.Repeat([]byte{rest}, x.width)
			for bit := range 64 {
				for _, v := range []int64{1 << bit, -1 << bit, 1<<bit - 1, 1<<bit - x.step, -1<<bit - 1, ^(1 << bit)} {
					filled(t, b, x.hole(), v)
				}
			}
			for bit := range 8 * x.width {
				b[bit/8] ^= 1 << (bit % 8)
				read(t, b, x.hole())
				b[bit/8] ^= 1 << (bit % 8)
			}
		}
	}
}

// P18.3: all distances of the hole that has the fewest bits, and all bytes.
func TestFillAll(t *testing.T) {
	b := []byte{0x5a, 0xa5, 0x5a, 0x37}
	for v := int64(-1<<15 - 8); v <= 1<<15+8; v++ {
		filled(t, b, hole(api.HoTst14), v)
	}
	for v := int64(-300); v <= 300; v++ {
		filled(t, []byte{byte(v)}, hole(api.HoAbs1), v)
	}
}

// P18.3, P18.4: where enc sets a distance, Read finds it, and Fill puts it.
func TestEnc(t *testing.T) {
	for i, op := range []int{api.OpB, api.OpB, api.OpBCond, api.OpTb, api.OpLdLit, api.OpAdr} {
		h := hole(nears[i])
		least, most, step, _ := fixup.Reach(h)
		for _, v := range []int64{least, least + step, -step, 0, step, 2 * step, most / 3 / step * step, most - step, most} {
			for _, w := range []uint32{0, 0xffffffff, 0x12345678} {
				set, e := enc.Sets(w, op, v/step)
				if e != api.OK {
					t.Fatalf("Sets of %x, %d, %d: %d", w, op, v/step, e)
				}
				if n, e := read(t, bits.Bytes(set), h); n != v || e != api.OK {
					t.Errorf("Read of %x, %+v: %d, %d, not %d", set, h, n, e, v)
				}
				if l, e := filled(t, bits.Bytes(w), h, v); !bytes.Equal(l, bits.Bytes(set)) || e != api.OK {
					t.Errorf("Fill of %x, %+v, %d: %x, %d, not %x", w, h, v, l, e, set)
				}
			}
		}
	}
}

// P18.3: what stands in bytes.
func TestRead(t *testing.T) {
	ones := bytes.Repeat([]byte{0xff}, 8)
	for _, c := range []struct {
		b    []byte
		h    api.Hole
		want int64
		e    api.Errno
	}{
		{[]byte{0xff, 0xff, 0xff, 0x97}, hole(api.HoCall26), -4, api.OK},
		{ones[:4], hole(api.HoB26), -4, api.OK},
		{ones[:4], hole(api.HoAdr21), -1, api.OK},
		{[]byte{0x20, 0, 0, 0x30}, hole(api.HoAdr21), 5, api.OK},
		{[]byte{0x1f, 0, 0xf8, 0xff}, hole(api.HoTst14), 0, api.OK},
		{ones[:1], hole(api.HoAbs1), 255, api.OK},
		{ones[:4], hole(api.HoAbs4), 1<<32 - 1, api.OK},
		{ones, hole(api.HoAbs8), -1, api.OK},
		{[]byte{1, 2, 3, 4}, hole(api.HoAbs4), 0x04030201, api.OK},
		{[]byte{0, 0, 0, 0, 0, 0, 0, 0x80}, hole(api.HoAbs8), math.MinInt64, api.OK},
		{ones[:4], hole(api.HoAdrp21), 0, api.ErrFix},
		{ones[:4], hole(api.HoAdd12), 0, api.ErrFix},
		{ones[:4], load(3), 0, api.ErrFix},
		{ones[:3], load(3), 0, api.ErrArg},
		{ones[:4], load(4), 0, api.ErrArg},
		{ones[:4], hole(api.HoAbs1), 0, api.ErrArg},
		{ones[:8], hole(api.HoB26), 0, api.ErrArg},
		{nil, hole(api.HoAbs8), 0, api.ErrArg},
		{nil, api.Hole{}, 0, api.ErrArg},
	} {
		if v, e := read(t, c.b, c.h); v != c.want || e != c.e {
			t.Errorf("Read of %x, %+v: %d, %d, not %d, %d", c.b, c.h, v, e, c.want, c.e)
		}
	}
}

// The document's example, and P18.4 to P18.6 with it: a bl to f.
func TestExample(t *testing.T) {
	h := of(hole(api.HoCall26), 0, "f", "")
	f, e := resolved(t, h, 0, 8, api.Symbol{Name: "f", Value: 16})
	if f != patch(8) || e != api.OK {
		t.Errorf("Resolve of %s: %+v, %d", text(h), f, e)
	}
	l, e := filled(t, []byte{0, 0, 0, 0x94}, h, f.Value)
	if !bytes.Equal(l, []byte{2, 0, 0, 0x94}) || e != api.OK {
		t.Errorf("Fill of a bl: %x, %d", l, e)
	}
	f, e = resolved(t, h, 0, 8, api.Symbol{Name: "f", Section: api.NoSection, Global: true})
	if f != reloc(api.RlCall26, 8, 0, 0) || e != api.OK {
		t.Errorf("Resolve of %s: %+v, %d", text(h), f, e)
	}
}

// Each kind's number is filled in, or has a relocation, as the document's words near, pages and data say.
func TestKinds(t *testing.T) {
	away := api.Symbol{Name: "x", Section: api.NoSection, Global: true}
	for _, kind := range nears {
		if f, e := resolved(t, of(hole(kind), 4, ".", ""), 0, 8, away); f != patch(4) || e != api.OK {
			t.Errorf("Resolve of %d, near: %+v, %d", kind, f, e)
		}
	}
	for _, h := range pages() {
		if f, e := resolved(t, of(h, 4, "x", ""), 0, 8, away); !f.Reloc || e != api.OK {
			t.Errorf("Resolve of %+v: %+v, %d", h, f, e)
		}
		if f, e := resolved(t, of(h, 4, ".", "."), 0, 8, away); f != (api.Fix{}) || e != api.ErrFix {
			t.Errorf("Resolve of %+v: %+v, %d", h, f, e)
		}
	}
	for _, kind := range datas {
		if f, e := resolved(t, of(hole(kind), 4, ".", "."), 0, 8, away); f != patch(4) || e != api.OK {
			t.Errorf("Resolve of %d, data: %+v, %d", kind, f, e)
		}
	}
}
