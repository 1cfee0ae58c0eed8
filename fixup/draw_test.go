package fixup_test

import (
	"math"
	"math/rand/v2"
	"testing"

	"cooper/api"
)

func random() *rand.Rand { return rand.New(rand.NewPCG(18, 1)) }

func one[T any](r *rand.Rand, l ...T) T { return l[r.IntN(len(l))] }

func some[T any](r *rand.Rand, most int, draw func(*rand.Rand) T) []T {
	var l []T
	for range r.IntN(most + 1) {
		l = append(l, draw(r))
	}
	return l
}

func drawnName(r *rand.Rand) string { return one(r, "a", "b", "c", "d", "e", ".", "", "no") }

func drawnNumber(r *rand.Rand) int64 {
	near := one[int64](r, 0, 0, 0, 128, 256, 1<<15, 1<<20, 1<<27, 1<<31, 1<<32, math.MaxInt64) * one[int64](r, 1, -1)
	return near + one(r, 0, 0, r.Int64N(16)-8, 4*r.Int64N(8)-16, r.Int64(), -r.Int64())
}

func drawnSection(r *rand.Rand) int {
	return one(r, 0, 0, 0, 1, 1, 2, -1, -2, -2, -3, math.MaxInt, math.MinInt)
}

func drawnSymbol(r *rand.Rand) api.Symbol {
	s := api.Symbol{Name: drawnName(r), Section: drawnSection(r), Value: one(r, drawnNumber(r), 4*r.Int64N(64)), Global: r.IntN(2) == 0}
	if s.Section == api.NoSection && r.IntN(4) > 0 {
		s.Value = 0
	}
	return s
}

func drawnValue(r *rand.Rand) api.Value {
	v := api.Value{Add: drawnNumber(r)}
	if r.IntN(8) > 0 {
		v.Plus = drawnName(r)
	}
	if r.IntN(2) == 0 {
		v.Minus = drawnName(r)
	}
	return v
}

// drawnHole is a hole, mostly one that there is.
func drawnHole(r *rand.Rand) api.Hole {
	h := one(r, ruledHoles()...).hole()
	h.V = drawnValue(r)
	if r.IntN(20) == 0 {
		h.Size = one(r, -1, 1, 2, 3, 4, math.MaxInt, math.MinInt)
	}
	if r.IntN(20) == 0 {
		h.Kind = one(r, -1, 0, 13, 14, 257, math.MaxInt, math.MinInt, r.Int())
	}
	return h
}

func drawnLinker(r *rand.Rand) linker {
	begins, aways := map[int]int64{}, map[string]int64{}
	for section := range map[int]int{0: 0, 1: 0, 2: 0, -3: 0, math.MaxInt: 0, math.MinInt: 0} {
		begins[section] = int64(r.Uint64())
	}
	for _, name := range []string{"a", "b", "c", "d", "e", "."} {
		aways[name] = int64(r.Uint64())
	}
	return linker{begin: func(section int) int64 { return begins[section] }, away: func(name string) int64 { return aways[name] }}
}

// P18.2, P18.5, P18.6: drawn holes with drawn symbols; wherever a linker puts all.
func TestResolveDrawn(t *testing.T) {
	r := random()
	l := drawnLinker(r)
	counts := map[api.Errno]int{}
	relocs, patches := map[int]int{}, map[int]int{}
	for i := range 200000 {
		if i%1000 == 0 {
			l = drawnLinker(r)
		}
		h, section, off, syms := drawnHole(r), drawnSection(r), one(r, drawnNumber(r), 4*r.Int64N(64)), some(r, 12, drawnSymbol)
		asked(t, h)
		f, e := resolved(t, h, section, off, syms...)
		counts[e]++
		if e != api.OK {
			continue
		}
		l.meant(t, h, f, section, off, syms)
		if f.Reloc {
			relocs[f.R.Type]++
		} else {
			patches[h.Kind]++
		}
	}
	for _, e := range []api.Errno{api.OK, api.ErrArg, api.ErrNone, api.ErrFix, api.ErrReach} {
		if counts[e] < 4000 {
			t.Errorf("%d of %d", counts[e], e)
		}
	}
	for _, x := range ruledHoles() {
		for _, kind := range []int{x.plain, x.far} {
			if kind != 0 && relocs[kind] < 100 {
				t.Errorf("%d relocations of type %d", relocs[kind], kind)
			}
		}
		if x.reach && patches[x.kind] < 100 {
			t.Errorf("%d filled in of kind %d", patches[x.kind], x.kind)
		}
	}
}

// drawnBytes are as many as a hole has, mostly.
func drawnBytes(r *rand.Rand, width int) []byte {
	if r.IntN(20) == 0 {
		width = r.IntN(10)
	}
	var l []byte
	for range width {
		l = append(l, one(r, 0, 0xff, byte(r.Uint32())))
	}
	return l
}

// P18.3, P18.4: drawn bytes and values.
func TestFillDrawn(t *testing.T) {
	r := random()
	counts := map[api.Errno]int{}
	for range 100000 {
		h := drawnHole(r)
		x, _ := ruledFind(h)
		b := drawnBytes(r, x.width)
		v := drawnNumber(r)
		switch r.IntN(3) {
		case 0:
			v = one(r, x.least, x.most) + r.Int64N(17) - 8
		case 1:
			if x.reach {
				v = x.least + int64(r.Uint64N(max(uint64(x.most-x.least), 1)))
				v -= v % x.step
			}
		}
		read(t, b, h)
		l, e := filled(t, b, h, v)
		counts[e]++
		if e == api.OK {
			// What is filled in again is as if it had not been before.
			other, _ := filled(t, b, h, x.least)
			again, _ := filled(t, other, h, v)
			if string(again) != string(l) {
				t.Fatalf("Fill of %x, %+v, %d: %x, not %x", other, h, v, again, l)
			}
		}
	}
	for _, e := range []api.Errno{api.OK, api.ErrArg, api.ErrFix, api.ErrReach} {
		if counts[e] < 2500 {
			t.Errorf("%d of %d", counts[e], e)
		}
	}
}
