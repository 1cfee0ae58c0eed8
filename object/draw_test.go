package object_test

import (
	"math"
	"math/rand/v2"
	"slices"
	"strings"
	"testing"

	"cooper/api"
	"cooper/object"
)

func random() *rand.Rand { return rand.New(rand.NewPCG(14, 1)) }

func one[T any](r *rand.Rand, l ...T) T { return l[r.IntN(len(l))] }

func some[T any](r *rand.Rand, most int, draw func(*rand.Rand) T) []T {
	var l []T
	for range r.IntN(most + 1) {
		l = append(l, draw(r))
	}
	return l
}

func drawnName(r *rand.Rand) string {
	return string(some(r, 3, func(r *rand.Rand) byte {
		return one[byte](r, 'a', 'a', 'b', 'b', 'c', '.', '!', '~', 'A', ' ', 0, 1, 0xff)
	}))
}

func drawnSectionName(r *rand.Rand) string {
	return one(r, ".text", ".data", ".rodata", ".bss", ".text.a", ".bss.b", ".data.", ".textual", "a", "!~", drawnName(r))
}

func drawnNumber(r *rand.Rand) int64 {
	return one(r, r.Int64N(40)-4, r.Int64N(40)-4, r.Int64N(40)-4, math.MinInt64, math.MaxInt64, 1<<20, 1<<20+1)
}

func drawnReloc(r *rand.Rand) api.Reloc {
	return api.Reloc{Off: drawnNumber(r), Type: r.IntN(36) + 254, Sym: r.IntN(8) - 1, Addend: drawnNumber(r)}
}

// drawnSection is a section of which nothing need go with anything.
func drawnSection(r *rand.Rand) api.Section {
	return api.Section{
		Name: drawnSectionName(r), Kind: r.IntN(6), Align: drawnNumber(r), Size: drawnNumber(r),
		Data: some(r, 9, func(r *rand.Rand) byte { return byte(r.Uint32()) }), Relocs: some(r, 3, drawnReloc),
	}
}

func drawnSymbol(r *rand.Rand) api.Symbol {
	return api.Symbol{Name: drawnName(r), Section: r.IntN(8) - 3, Value: drawnNumber(r), Global: r.IntN(2) == 0}
}

// wild is an object that most likely may not be.
func wild(r *rand.Rand) api.Object {
	return api.Object{Sections: some(r, 4, drawnSection), Symbols: some(r, 8, drawnSymbol)}
}

// fitting is a section of that name that may be, of an object of so many symbols.
func fitting(r *rand.Rand, name string, symbols int) api.Section {
	s := filled(name, r.Int64N(60))
	s.Align = 1 << r.IntN(13)
	for i := range s.Data {
		s.Data[i] = byte(r.Uint32())
	}
	for off := r.Int64N(8); symbols > 0; off += r.Int64N(6) {
		kind := r.IntN(30) + 257
		if kind >= api.RlLd19 {
			off = (off + 3) / 4 * 4
		}
		width := int64(object.Width(kind))
		if off+width > int64(len(s.Data)) {
			break
		}
		if width > 0 {
			s.Relocs = append(s.Relocs, api.Reloc{Off: off, Type: kind, Sym: r.IntN(symbols), Addend: drawnNumber(r)})
		}
		off += width
	}
	return s
}

// fit is an object that may be.
func fit(r *rand.Rand) api.Object {
	var o api.Object
	names := map[string]bool{}
	several := r.IntN(9)
	for range r.IntN(5) {
		if name := drawnSectionName(r); !names[name] && name != "" && !strings.ContainsAny(name, " \x00\x01\xff") && strings.ToValidUTF8(name, "") == name {
			names[name] = true
			o.Sections = append(o.Sections, fitting(r, name, several))
		}
	}
	names = map[string]bool{"": true}
	for len(o.Symbols) < several {
		s := drawnSymbol(r)
		if names[s.Name] || strings.Contains(s.Name, "\x00") {
			continue
		}
		names[s.Name] = true
		if s.Section = r.IntN(len(o.Sections)+2) - 2; s.Section >= 0 {
			s.Value = r.Int64N(o.Sections[s.Section].Size + 1)
		} else if s.Section == api.NoSection {
			s.Value, s.Global = 0, true
		}
		o.Symbols = append(o.Symbols, s)
	}
	slices.SortFunc(o.Symbols, func(a, b api.Symbol) int {
		if ruledAhead(a, b) {
			return -1
		}
		return 1
	})
	return o
}

// bent is an object of which something is changed.
func bent(r *rand.Rand, o api.Object) api.Object {
	o = deep(o)
	if len(o.Sections) > 0 {
		bendSection(r, o, &o.Sections[r.IntN(len(o.Sections))])
	}
	if len(o.Symbols) > 0 {
		s, other := &o.Symbols[r.IntN(len(o.Symbols))], &o.Symbols[r.IntN(len(o.Symbols))]
		switch r.IntN(12) {
		case 0:
			*s = drawnSymbol(r)
		case 1:
			s.Name = drawnName(r)
		case 2:
			s.Value = drawnNumber(r)
		case 3:
			s.Section = r.IntN(8) - 3
		case 4:
			s.Global = !s.Global
		case 5:
			*s, *other = *other, *s
		}
	}
	return o
}

func bendSection(r *rand.Rand, o api.Object, s *api.Section) {
	switch r.IntN(12) {
	case 0:
		s.Name = drawnSectionName(r)
	case 1:
		s.Kind = r.IntN(6)
	case 2:
		s.Align = drawnNumber(r)
	case 3:
		s.Size = one(r, s.Size-1, s.Size+1, drawnNumber(r))
	case 4:
		s.Data = append(s.Data, 0)
	case 5:
		s.Relocs = append(s.Relocs, drawnReloc(r))
	case 6:
		*s = o.Sections[r.IntN(len(o.Sections))]
	case 7:
		s.Size = int64(len(s.Data)) + 1
		s.Data = append(s.Data, 0)
	}
	if len(s.Relocs) > 0 {
		x := &s.Relocs[r.IntN(len(s.Relocs))]
		switch r.IntN(8) {
		case 0:
			x.Off += r.Int64N(9) - 4
		case 1:
			x.Type = r.IntN(36) + 254
		case 2:
			x.Sym = r.IntN(11) - 1
		case 3:
			x.Addend = drawnNumber(r)
		}
	}
}

// P14.1: drawn names.
func TestKindsDrawn(t *testing.T) {
	r := random()
	for range 100000 {
		name := one(r, "", ".", ".text", ".rodata", ".bss", "text") + one(r, "", ".", ".", "a") + one(r, "", "text", ".bss", "x")
		if got := object.KindOf(name); got != ruledKind(name) {
			t.Fatalf("KindOf(%q): %d", name, got)
		}
	}
}

// P14.2 to P14.6: drawn objects: such that may be, such of which something is changed, and wild ones.
func TestObjectsDrawn(t *testing.T) {
	r := random()
	changed := 0
	for range 12000 {
		o := fit(r)
		if e := object.Check(o); e != api.OK {
			t.Fatalf("Check of %s: %d", short(o), e)
		}
		hold(t, o)
		x := bent(r, o)
		hold(t, x)
		if object.Same(o, x) != (text(o) == text(x)) {
			t.Fatalf("Same of %s and %s", short(o), short(x))
		}
		if object.Check(x) == api.OK {
			changed++
		}
		hold(t, wild(r))
	}
	if changed < 1200 || changed > 10800 {
		t.Errorf("%d of the changed ones may be", changed)
	}
}

// P14.4: symbols in another order, with which the relocations go, are the same in order.
func TestShuffledDrawn(t *testing.T) {
	r := random()
	for range 10000 {
		o := fit(r)
		x := deep(o)
		to := r.Perm(len(o.Symbols))
		for i, s := range o.Symbols {
			x.Symbols[to[i]] = s
		}
		for _, s := range x.Sections {
			for i := range s.Relocs {
				s.Relocs[i].Sym = to[s.Relocs[i].Sym]
			}
		}
		if got := object.Norm(x); text(got) != text(o) {
			t.Fatalf("Norm of %s: %s, not %s", short(x), short(got), short(o))
		}
	}
}

// P14.3: places in drawn objects.
func TestPlacesDrawn(t *testing.T) {
	r := random()
	for range 60000 {
		o := api.Object{Symbols: some(r, 8, drawnSymbol)}
		section, off := r.IntN(8)-3, drawnNumber(r)
		k, is := object.At(o, section, off)
		if want, wantIs := ruledAt(o, section, off); k != want || is != wantIs {
			t.Fatalf("At(%d, %d) of %s: %d, %t, not %d, %t", section, off, short(o), k, is, want, wantIs)
		}
	}
}
