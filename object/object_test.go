package object_test

import (
	"fmt"
	"math"
	"slices"
	"strings"
	"testing"

	"cooper/api"
	"cooper/object"
)

// whole is an object that may be.
func whole() api.Object {
	return api.Object{
		Sections: []api.Section{
			{Name: ".text", Kind: api.SkText, Align: 4, Size: 12, Data: []byte("0123456789ab"), Relocs: []api.Reloc{
				{Off: 0, Type: api.RlCall26, Sym: 4}, {Off: 4, Type: api.RlAdd12, Sym: 1, Addend: 3}, {Off: 8, Type: api.RlPrel32, Sym: 0, Addend: -1},
			}},
			{Name: ".data", Kind: api.SkData, Align: 8, Size: 17, Data: []byte("0123456789abcdefg"), Relocs: []api.Reloc{
				{Off: 1, Type: api.RlAbs64, Sym: 3}, {Off: 9, Type: api.RlPrel16, Sym: 2}, {Off: 13, Type: api.RlAbs32, Sym: 4},
			}},
			{Name: ".bss.z", Kind: api.SkZero, Align: 4096, Size: 1 << 20},
			{Name: ".rodata", Kind: api.SkRead, Align: 1},
		},
		Symbols: []api.Symbol{
			{Name: "b", Section: 2, Value: 1 << 20}, {Name: "n", Section: api.AbsSection, Value: math.MinInt64}, {Name: "x", Section: 1, Value: 17},
			{Name: "a", Section: 0, Global: true}, {Name: "f", Section: api.NoSection, Global: true}, {Name: "m", Section: api.AbsSection, Value: 7, Global: true},
		},
	}
}

// P14.1: by whole parts of the name, and only where it begins.
func TestKindOf(t *testing.T) {
	for kind, l := range map[int][]string{
		api.SkText: {".text", ".text.", ".text.hot", ".text.a.b", ".text..", ".text.\x00", ".text.rodata", ".text.é"},
		api.SkRead: {".rodata", ".rodata.", ".rodata.str1.1", ".rodata.text"},
		api.SkZero: {".bss", ".bss.", ".bss.x", ".bss.text"},
		api.SkData: {
			"", ".", "..", "text", ".textual", ".tex", ".TEXT", ".text1", ".text ", " .text", "..text", "x.text", ".text\x00", ".data", ".data.text", ".data.",
			".rodat", ".rodata1", ".ro.data", "rodata", ".bs", ".bss1", "bss", ".tbss", ".b.ss", ".init", ".note",
		},
	} {
		for _, name := range l {
			if got := object.KindOf(name); got != kind || got != ruledKind(name) {
				t.Errorf("KindOf(%q): %d, not %d", name, got, kind)
			}
		}
	}
}

// P14.1: each relocation, what stands beside it, and what is none at all.
func TestWidth(t *testing.T) {
	wants := ruledWidths()
	for kind := -300; kind < 1000; kind++ {
		if got := object.Width(kind); got != wants[kind] {
			t.Errorf("Width(%d): %d, not %d", kind, got, wants[kind])
		}
	}
	for _, kind := range []int{math.MinInt, math.MaxInt, 1<<32 + 257, 1 << 31, -257} {
		if got := object.Width(kind); got != 0 {
			t.Errorf("Width(%d): %d", kind, got)
		}
	}
	if object.Width(api.RlAbs64) != 8 || object.Width(api.RlPrel32) != 4 || object.Width(api.RlAbs16) != 2 || object.Width(api.RlCall26) != 4 {
		t.Error("Width")
	}
}

// filled is a section of a name, as its kind asks, of so many bytes.
func filled(name string, size int64) api.Section {
	s := api.Section{Name: name, Kind: object.KindOf(name), Align: 1, Size: size}
	if s.Kind != api.SkZero {
		s.Data = make([]byte, size)
	}
	return s
}

// P14.2: what a section may be, and may not.
func TestSections(t *testing.T) {
	for _, x := range []struct {
		what string
		put  func(s *api.Section)
		want api.Errno
	}{
		{"nothing else", func(s *api.Section) {}, api.OK},
		{"no name", func(s *api.Section) { s.Name = "" }, api.ErrObject},
		{"a name of a byte", func(s *api.Section) { s.Name = "!" }, api.OK},
		{"another one", func(s *api.Section) { s.Name = "~" }, api.OK},
		{"a name of 32 bytes", func(s *api.Section) { s.Name = strings.Repeat("a", 32) }, api.OK},
		{"a name of 33", func(s *api.Section) { s.Name = strings.Repeat("a", 33) }, api.ErrObject},
		{"a long name", func(s *api.Section) { s.Name = strings.Repeat("a", 1<<16) }, api.ErrObject},
		{"a blank", func(s *api.Section) { s.Name = "a b" }, api.ErrObject},
		{"a blank at the end", func(s *api.Section) { s.Name = "ab " }, api.ErrObject},
		{"a blank ahead", func(s *api.Section) { s.Name = " ab" }, api.ErrObject},
		{"a byte 127", func(s *api.Section) { s.Name = "a\x7f" }, api.ErrObject},
		{"a byte 128", func(s *api.Section) { s.Name = "\x80" }, api.ErrObject},
		{"a byte 255", func(s *api.Section) { s.Name = "\xff" }, api.ErrObject},
		{"a byte 0", func(s *api.Section) { s.Name = "a\x00b" }, api.ErrObject},
		{"no byte", func(s *api.Section) { s.Name = "é" }, api.ErrObject},
		{"signs", func(s *api.Section) { s.Name = "\"(,#%`" }, api.OK},
		{"another kind's name", func(s *api.Section) { s.Name = ".text" }, api.ErrObject},
		{"no kind", func(s *api.Section) { s.Kind = 0 }, api.ErrObject},
		{"another kind", func(s *api.Section) { s.Kind = api.SkRead }, api.ErrObject},
		{"a kind of zeros", func(s *api.Section) { s.Kind = api.SkZero }, api.ErrObject},
		{"a fifth kind", func(s *api.Section) { s.Kind = 5 }, api.ErrObject},
		{"code", func(s *api.Section) { s.Name, s.Kind = ".text.x", api.SkText }, api.OK},
		{"what is read", func(s *api.Section) { s.Name, s.Kind = ".rodata", api.SkRead }, api.OK},
		{"align 0", func(s *api.Section) { s.Align = 0 }, api.ErrObject},
		{"align -1", func(s *api.Section) { s.Align = -1 }, api.ErrObject},
		{"align 2", func(s *api.Section) { s.Align = 2 }, api.OK},
		{"align 3", func(s *api.Section) { s.Align = 3 }, api.ErrObject},
		{"align 12", func(s *api.Section) { s.Align = 12 }, api.ErrObject},
		{"align 4095", func(s *api.Section) { s.Align = 4095 }, api.ErrObject},
		{"align 4096", func(s *api.Section) { s.Align = 4096 }, api.OK},
		{"align 8192", func(s *api.Section) { s.Align = 8192 }, api.ErrObject},
		{"the least align", func(s *api.Section) { s.Align = math.MinInt64 }, api.ErrObject},
		{"the greatest power", func(s *api.Section) { s.Align = 1 << 62 }, api.ErrObject},
		{"a byte too few", func(s *api.Section) { s.Size++ }, api.ErrObject},
		{"a byte too many", func(s *api.Section) { s.Size-- }, api.ErrObject},
		{"size -1", func(s *api.Section) { s.Size = -1 }, api.ErrObject},
		{"no bytes, size -1", func(s *api.Section) { s.Size, s.Data = -1, nil }, api.ErrObject},
		{"no bytes", func(s *api.Section) { s.Size, s.Data = 0, nil }, api.OK},
		{"empty bytes", func(s *api.Section) { s.Size, s.Data = 0, []byte{} }, api.OK},
		{"the least size", func(s *api.Section) { s.Size = math.MinInt64 }, api.ErrObject},
		{"the greatest size", func(s *api.Section) { s.Size = math.MaxInt64 }, api.ErrObject},
		{"2^20 bytes", func(s *api.Section) { s.Size, s.Data = 1<<20, make([]byte, 1<<20) }, api.OK},
		{"one more", func(s *api.Section) { s.Size, s.Data = 1<<20+1, make([]byte, 1<<20+1) }, api.ErrObject},
		{"zeros", func(s *api.Section) { s.Name, s.Kind, s.Data = ".bss", api.SkZero, nil }, api.OK},
		{"zeros of empty bytes", func(s *api.Section) { s.Name, s.Kind, s.Data = ".bss", api.SkZero, []byte{} }, api.OK},
		{"zeros that stand there", func(s *api.Section) { s.Name, s.Kind = ".bss", api.SkZero }, api.ErrObject},
		{"2^20 zeros", func(s *api.Section) { *s = filled(".bss", 1<<20) }, api.OK},
		{"one more zero", func(s *api.Section) { *s = filled(".bss", 1<<20+1) }, api.ErrObject},
		{"zeros less 1", func(s *api.Section) { *s = filled(".bss", -1) }, api.ErrObject},
		{"no zeros", func(s *api.Section) { *s = filled(".bss", 0) }, api.OK},
		{"zeros with a relocation", func(s *api.Section) {
			*s = filled(".bss", 8)
			s.Relocs = []api.Reloc{{Type: api.RlAbs32}}
		}, api.ErrObject},
		{"zeros with empty relocations", func(s *api.Section) {
			*s = filled(".bss", 8)
			s.Relocs = []api.Reloc{}
		}, api.OK},
	} {
		for at := range 3 {
			o := api.Object{Sections: []api.Section{filled("x", 8), filled("y", 8), filled("z", 8)}, Symbols: []api.Symbol{{Name: "a", Section: api.AbsSection}}}
			x.put(&o.Sections[at])
			if got := object.Check(o); got != x.want {
				t.Errorf("%s: %d, not %d", x.what, got, x.want)
			}
			hold(t, o)
		}
	}
}

// P14.2: what relocations may be, and may not, in a section of 16 bytes, of an object of two symbols.
func TestRelocs(t *testing.T) {
	word, half, long := api.RlAbs32, api.RlPrel16, api.RlPrel64
	for _, x := range []struct {
		l    []api.Reloc
		want api.Errno
	}{
		{nil, api.OK}, {[]api.Reloc{}, api.OK},
		{[]api.Reloc{{Off: 0, Type: word}}, api.OK}, {[]api.Reloc{{Off: 12, Type: word}}, api.OK}, {[]api.Reloc{{Off: 13, Type: word}}, api.ErrObject},
		{[]api.Reloc{{Off: -1, Type: word}}, api.ErrObject}, {[]api.Reloc{{Off: -4, Type: word}}, api.ErrObject}, {[]api.Reloc{{Off: 16, Type: word}}, api.ErrObject},
		{[]api.Reloc{{Off: 14, Type: half}}, api.OK}, {[]api.Reloc{{Off: 15, Type: half}}, api.ErrObject},
		{[]api.Reloc{{Off: 8, Type: long}}, api.OK}, {[]api.Reloc{{Off: 9, Type: long}}, api.ErrObject},
		{[]api.Reloc{{Off: math.MaxInt64, Type: long}}, api.ErrObject}, {[]api.Reloc{{Off: math.MinInt64, Type: long}}, api.ErrObject}, {[]api.Reloc{{Off: math.MaxInt64 - 3, Type: api.RlJump26}}, api.ErrObject},
		{[]api.Reloc{{Off: 0, Type: word}, {Off: 4, Type: word}}, api.OK}, {[]api.Reloc{{Off: 0, Type: word}, {Off: 3, Type: word}}, api.ErrObject},
		{[]api.Reloc{{Off: 0, Type: long}, {Off: 8, Type: word}}, api.OK}, {[]api.Reloc{{Off: 0, Type: long}, {Off: 7, Type: half}}, api.ErrObject},
		{[]api.Reloc{{Off: 0, Type: half}, {Off: 2, Type: half}}, api.OK}, {[]api.Reloc{{Off: 1, Type: half}, {Off: 2, Type: half}}, api.ErrObject},
		{[]api.Reloc{{Off: 4, Type: word}, {Off: 4, Type: word}}, api.ErrObject}, {[]api.Reloc{{Off: 4, Type: word}, {Off: 0, Type: word}}, api.ErrObject},
		{[]api.Reloc{{Off: 0, Type: half}, {Off: 4, Type: half}, {Off: 2, Type: half}}, api.ErrObject}, {[]api.Reloc{{Off: 4, Type: half}, {Off: 0, Type: half}, {Off: 6, Type: half}}, api.ErrObject},
		{[]api.Reloc{{Off: 1, Type: half}, {Off: 3, Type: long}, {Off: 11, Type: word}}, api.OK},
		// Which type it is.
		{[]api.Reloc{{Off: 0}}, api.ErrObject}, {[]api.Reloc{{Off: 0, Type: 256}}, api.ErrObject}, {[]api.Reloc{{Off: 0, Type: 263}}, api.ErrObject}, {[]api.Reloc{{Off: 0, Type: 276}}, api.ErrObject},
		{[]api.Reloc{{Off: 0, Type: 281}}, api.ErrObject}, {[]api.Reloc{{Off: 0, Type: 287}}, api.ErrObject}, {[]api.Reloc{{Off: 0, Type: -257}}, api.ErrObject}, {[]api.Reloc{{Off: 0, Type: word}, {Off: 4}}, api.ErrObject},
		// Which symbol it is.
		{[]api.Reloc{{Off: 0, Type: word, Sym: 1}}, api.OK}, {[]api.Reloc{{Off: 0, Type: word, Sym: 2}}, api.ErrObject}, {[]api.Reloc{{Off: 0, Type: word, Sym: -1}}, api.ErrObject},
		{[]api.Reloc{{Off: 0, Type: word, Sym: math.MaxInt}}, api.ErrObject}, {[]api.Reloc{{Off: 0, Type: word, Sym: 1}, {Off: 8, Type: word, Sym: 2}}, api.ErrObject},
		// Whatever is added.
		{[]api.Reloc{{Off: 0, Type: word, Addend: math.MinInt64}, {Off: 4, Type: word, Addend: math.MaxInt64}}, api.OK},
	} {
		for _, name := range []string{".text", ".data", ".rodata"} {
			o := api.Object{Sections: []api.Section{filled(".text.a", 4), filled(name, 16)}, Symbols: []api.Symbol{{Name: "a", Section: 0}, {Name: "b", Section: 1}}}
			o.Sections[1].Relocs = x.l
			if got := object.Check(o); got != x.want {
				t.Errorf("%v: %d, not %d", x.l, got, x.want)
			}
			hold(t, o)
		}
	}
	hold(t, api.Object{Sections: []api.Section{{Name: ".data", Kind: api.SkData, Align: 1, Size: 4, Data: make([]byte, 4), Relocs: []api.Reloc{{Type: word}}}}})
}

// P14.2: a relocation of each type at each place: those of instructions stand at multiples of 4.
func TestRelocsPlaced(t *testing.T) {
	for kind := range 400 {
		for off := range int64(20) {
			o := api.Object{Sections: []api.Section{filled(".text", 16)}, Symbols: []api.Symbol{{Name: "a", Section: 0}}}
			o.Sections[0].Relocs = []api.Reloc{{Off: off, Type: kind}}
			width, is := ruledWidths()[kind]
			may := is && int(off)+width <= 16 && (kind < 263 || off%4 == 0)
			if got := object.Check(o); (got == api.OK) != may || !may && got != api.ErrObject {
				t.Errorf("%d at %d: %d", kind, off, got)
			}
		}
	}
}

// P14.2: what a symbol may be, and may not, in whole(), whose sections have 12, 17, 2^20 and no bytes.
func TestSymbols(t *testing.T) {
	for _, x := range []struct {
		s    api.Symbol
		want api.Errno
	}{
		{api.Symbol{Name: "z"}, api.OK}, {api.Symbol{Name: "z", Value: 12}, api.OK}, {api.Symbol{Name: "z", Value: 13}, api.ErrObject}, {api.Symbol{Name: "z", Value: -1}, api.ErrObject},
		{api.Symbol{Name: "z", Section: 1, Value: 17}, api.OK}, {api.Symbol{Name: "z", Section: 1, Value: 18}, api.ErrObject}, {api.Symbol{Name: "z", Section: 2, Value: 1 << 20}, api.OK},
		{api.Symbol{Name: "z", Section: 2, Value: 1<<20 + 1}, api.ErrObject}, {api.Symbol{Name: "z", Section: 3}, api.OK}, {api.Symbol{Name: "z", Section: 3, Value: 1}, api.ErrObject},
		{api.Symbol{Name: "z", Section: 3, Value: math.MinInt64}, api.ErrObject}, {api.Symbol{Name: "z", Section: 3, Value: math.MaxInt64}, api.ErrObject},
		{api.Symbol{Name: "z", Section: 4}, api.ErrObject}, {api.Symbol{Name: "z", Section: -3}, api.ErrObject}, {api.Symbol{Name: "z", Section: math.MaxInt}, api.ErrObject}, {api.Symbol{Name: "z", Section: math.MinInt}, api.ErrObject},
		{api.Symbol{Name: "z", Section: api.NoSection}, api.ErrObject},
		{api.Symbol{Name: "z", Section: api.AbsSection}, api.OK}, {api.Symbol{Name: "z", Section: api.AbsSection, Value: -1}, api.OK},
		{api.Symbol{Name: "z", Section: api.AbsSection, Value: math.MaxInt64}, api.OK}, {api.Symbol{Name: "z", Section: api.AbsSection, Value: math.MinInt64}, api.OK},
		{api.Symbol{Name: strings.Repeat("z", 255)}, api.OK}, {api.Symbol{Name: strings.Repeat("z", 256)}, api.ErrObject}, {api.Symbol{Name: strings.Repeat("z", 1<<16)}, api.ErrObject},
		{api.Symbol{Name: "z\x00"}, api.ErrObject}, {api.Symbol{Name: "z\x00z"}, api.ErrObject}, {api.Symbol{Name: "z\x01"}, api.OK}, {api.Symbol{Name: "z \n\xff"}, api.OK}, {api.Symbol{Name: "é"}, api.OK},
		{api.Symbol{Name: "z", Section: 1, Value: 17, Global: true}, api.OK}, {api.Symbol{Name: "z", Section: 1, Value: 18, Global: true}, api.ErrObject}, {api.Symbol{Name: "z", Section: 1, Value: -1, Global: true}, api.ErrObject},
		{api.Symbol{Name: "z", Section: 4, Global: true}, api.ErrObject}, {api.Symbol{Name: "z", Section: -3, Global: true}, api.ErrObject}, {api.Symbol{Name: "z\x00", Global: true}, api.ErrObject},
		{api.Symbol{Name: "z", Section: api.NoSection, Global: true}, api.OK}, {api.Symbol{Name: "z", Section: api.NoSection, Value: 1, Global: true}, api.ErrObject}, {api.Symbol{Name: "z", Section: api.NoSection, Value: -1, Global: true}, api.ErrObject},
		{api.Symbol{Name: "z", Section: api.AbsSection, Value: 1 << 40, Global: true}, api.OK},
		// A name that there is in the same part, or in the other one, or that is out of order.
		{api.Symbol{Name: "x"}, api.ErrObject}, {api.Symbol{Name: "n"}, api.ErrObject}, {api.Symbol{Name: "a"}, api.ErrObject}, {api.Symbol{Name: "c"}, api.ErrObject}, {api.Symbol{Name: "y"}, api.OK},
		{api.Symbol{Name: "m", Global: true}, api.ErrObject}, {api.Symbol{Name: "a", Global: true}, api.ErrObject}, {api.Symbol{Name: "x", Global: true}, api.ErrObject}, {api.Symbol{Name: "l", Global: true}, api.ErrObject}, {api.Symbol{Name: "n0", Global: true}, api.OK},
	} {
		// Behind the other ones of its part.
		o := whole()
		at := 3
		if x.s.Global {
			at = len(o.Symbols)
		}
		o.Symbols = slices.Insert(o.Symbols, at, x.s)
		if got := object.Check(o); got != x.want {
			t.Errorf("%.300q, %t: %d, not %d", x.s.Name, x.s.Global, got, x.want)
		}
		hold(t, o)
	}
	for _, l := range [][]api.Symbol{
		{{Name: "", Section: api.AbsSection}},
		{{Name: "\x00", Section: api.AbsSection}},
		{{Name: "a", Section: 0}},
		{{Name: "a", Section: api.NoSection, Global: true, Value: 1}}, {{Name: "a", Section: api.NoSection, Global: true, Value: -1}}, {{Name: "a", Section: api.NoSection}},
		{{Name: "a", Section: api.AbsSection, Global: true}, {Name: "b", Section: api.AbsSection}},
		{{Name: "a", Section: api.AbsSection, Global: true}, {Name: "a", Section: api.AbsSection}},
		{{Name: "a", Section: api.AbsSection}, {Name: "a", Section: api.AbsSection, Global: true}},
		{{Name: "a", Section: api.AbsSection}, {Name: "b", Section: api.AbsSection, Value: 1, Global: true}, {Name: "a", Section: api.NoSection, Global: true}},
		{{Name: "b", Section: api.AbsSection}, {Name: "a", Section: api.AbsSection}}, {{Name: "a", Section: api.AbsSection}, {Name: "a", Section: api.AbsSection}},
		{{Name: "b", Section: api.NoSection, Global: true}, {Name: "a", Section: api.NoSection, Global: true}}, {{Name: "b", Section: api.NoSection, Global: true}, {Name: "b", Section: api.NoSection, Global: true}},
	} {
		if o := (api.Object{Symbols: l}); object.Check(o) != api.ErrObject {
			t.Errorf("%v may be", l)
		} else {
			hold(t, o)
		}
	}
	// Byte by byte: an upper letter ahead of a lower one, what is shorter ahead, and no sign of a byte above 127.
	order := []string{"\x01", "B", "Ba", "_", "a", "a\x01", "aa", "b", "\x7f", "\x80", "é", "\xff"}
	for i, a := range order {
		for j, b := range order {
			o := api.Object{Symbols: []api.Symbol{{Name: a, Section: api.AbsSection}, {Name: b, Section: api.AbsSection}}}
			if got := object.Check(o); (got == api.OK) != (i < j) {
				t.Errorf("%q, %q: %d", a, b, got)
			}
			hold(t, o)
		}
	}
}

// P14.2: as many as there may be, and one more; two of one name.
func TestCheckMany(t *testing.T) {
	sections := func(n int) (l []api.Section) {
		for i := range n {
			l = append(l, filled(fmt.Sprint("s", i), 8))
		}
		return l
	}
	symbols := func(n int) (l []api.Symbol) {
		for i := range n {
			l = append(l, api.Symbol{Name: fmt.Sprintf("a%07d", i), Section: api.AbsSection, Global: i >= n/2})
		}
		return l
	}
	relocs := func(n int) (l []api.Reloc) {
		for i := range n {
			l = append(l, api.Reloc{Off: int64(2 * i), Type: api.RlAbs16})
		}
		return l
	}
	full := filled(".data", 1<<14)
	full.Relocs = relocs(4096)
	over := filled(".data", 1<<14)
	over.Relocs = relocs(4097)
	twin := sections(64)
	twin[63].Name = "s0"
	first := symbols(4096)
	first[4095].Name = first[0].Name
	for i, x := range []struct {
		o    api.Object
		want api.Errno
	}{
		{api.Object{}, api.OK}, {api.Object{Sections: []api.Section{}, Symbols: []api.Symbol{}}, api.OK}, {whole(), api.OK},
		{api.Object{Sections: sections(64)}, api.OK}, {api.Object{Sections: sections(65)}, api.ErrObject}, {api.Object{Sections: sections(1000)}, api.ErrObject},
		{api.Object{Symbols: symbols(4096)}, api.OK}, {api.Object{Symbols: symbols(4097)}, api.ErrObject},
		{api.Object{Sections: []api.Section{full}, Symbols: symbols(1)}, api.OK}, {api.Object{Sections: []api.Section{over}, Symbols: symbols(1)}, api.ErrObject},
		{api.Object{Sections: twin}, api.ErrObject}, {api.Object{Sections: []api.Section{filled("a", 1), filled("a", 2)}}, api.ErrObject}, {api.Object{Sections: []api.Section{filled(".bss", 1), filled("a", 2), filled(".bss", 1)}}, api.ErrObject},
		{api.Object{Symbols: first}, api.ErrObject},
		{api.Object{Sections: []api.Section{{}}}, api.ErrObject}, {api.Object{Symbols: []api.Symbol{{}}}, api.ErrObject},
		// A section and a symbol may be called alike, and sections stand in any order.
		{api.Object{Sections: []api.Section{filled("b", 0), filled("a", 0)}, Symbols: []api.Symbol{{Name: "a"}, {Name: "b"}}}, api.OK},
	} {
		if got := object.Check(x.o); got != x.want {
			t.Errorf("object %d: %d, not %d", i, got, x.want)
		}
		if len(x.o.Symbols) < 100 {
			hold(t, x.o)
		}
	}
}

// P14.3, P14.4: the document's order, symbols that are alike, and numbers that no symbol has.
func TestNorm(t *testing.T) {
	o := api.Object{
		Sections: []api.Section{{Name: ".text", Align: 3, Size: -1, Relocs: []api.Reloc{
			{Sym: 0}, {Sym: 1}, {Sym: 2}, {Sym: 3}, {Sym: 4}, {Sym: 5}, {Sym: 6}, {Sym: 7}, {Sym: -1}, {Sym: math.MaxInt}, {Sym: math.MinInt}, {Sym: 3, Off: 9, Type: 8, Addend: 7},
		}}, {}},
		Symbols: []api.Symbol{
			{Name: "b", Global: true}, {Name: "b", Value: 1}, {Name: "a", Global: true, Value: 2}, {Name: "b", Value: 3, Section: 5}, {Name: "", Global: true}, {Name: "a", Global: true}, {Name: "A\x00"},
		},
	}
	want := api.Object{
		Sections: []api.Section{{Name: ".text", Align: 3, Size: -1, Relocs: []api.Reloc{
			{Sym: 6}, {Sym: 1}, {Sym: 4}, {Sym: 2}, {Sym: 3}, {Sym: 5}, {Sym: 0}, {Sym: 7}, {Sym: -1}, {Sym: math.MaxInt}, {Sym: math.MinInt}, {Sym: 2, Off: 9, Type: 8, Addend: 7},
		}}, {}},
		Symbols: []api.Symbol{
			{Name: "A\x00"}, {Name: "b", Value: 1}, {Name: "b", Value: 3, Section: 5}, {Name: "", Global: true}, {Name: "a", Global: true, Value: 2}, {Name: "a", Global: true}, {Name: "b", Global: true},
		},
	}
	if got := object.Norm(o); text(got) != text(want) {
		t.Errorf("Norm: %s, not %s", short(got), short(want))
	}
	for _, x := range []api.Object{o, want, whole(), {}, {Symbols: []api.Symbol{{}}}, {Symbols: []api.Symbol{{}, {}}}, {Sections: []api.Section{{}}}} {
		hold(t, x)
	}
	if n := object.Norm(api.Object{}); len(n.Sections) > 0 || len(n.Symbols) > 0 {
		t.Errorf("Norm of nothing: %s", short(n))
	}
}

// P14.3, P14.5: the first one of a name; none of another one.
func TestFind(t *testing.T) {
	o := api.Object{
		Sections: []api.Section{{Name: "a"}, {Name: ""}, {Name: "b"}, {Name: "a"}, {Name: "s"}},
		Symbols:  []api.Symbol{{Name: "b"}, {Name: "a", Global: true}, {Name: "a"}, {Name: "b", Section: -1}, {Name: "y"}, {Name: ""}},
	}
	for _, x := range []struct {
		name            string
		symbol, section int
	}{
		{"a", 1, 0}, {"b", 0, 2}, {"", 5, 1}, {"y", 4, -1}, {"s", -1, 4}, {"A", -1, -1}, {"aa", -1, -1}, {"a\x00", -1, -1}, {"z", -1, -1},
	} {
		k, is := object.Find(o, x.name)
		if k != max(x.symbol, 0) || is != (x.symbol >= 0) {
			t.Errorf("Find(%q): %d, %t", x.name, k, is)
		}
		k, is = object.Section(o, x.name)
		if k != max(x.section, 0) || is != (x.section >= 0) {
			t.Errorf("Section(%q): %d, %t", x.name, k, is)
		}
		k, is = object.Find(api.Object{}, x.name)
		n, has := object.Section(api.Object{}, x.name)
		if k != 0 || is || n != 0 || has {
			t.Errorf("%q in nothing: %d, %t, %d, %t", x.name, k, is, n, has)
		}
	}
	hold(t, o)
}

// P14.3: the names as they were when they were asked for, up to where the range stops, again and again.
func TestUndefined(t *testing.T) {
	outside := func(name string) api.Symbol { return api.Symbol{Name: name, Section: api.NoSection, Global: true} }
	for _, x := range []struct {
		l    []api.Symbol
		want []string
	}{
		{nil, nil},
		{[]api.Symbol{{Name: "a"}, {Name: "b", Section: api.AbsSection}, {Name: "c", Section: -3}, {Name: "d", Section: 1}}, nil},
		{[]api.Symbol{outside("a")}, []string{"a"}},
		{[]api.Symbol{outside("b"), {Name: "c"}, outside("a"), outside("b"), outside(""), {Name: "x", Section: api.NoSection, Value: 3}}, []string{"b", "a", "b", "", "x"}},
	} {
		o := api.Object{Symbols: x.l}
		all := object.Undefined(o)
		hold(t, o)
		spoil(o)
		for stop := range len(x.want) + 2 {
			var got []string
			for name := range all {
				if got = append(got, name); len(got) > stop {
					break
				}
			}
			if want := x.want[:min(stop+1, len(x.want))]; !slices.Equal(got, want) {
				t.Errorf("Undefined: %q, not %q", got, want)
			}
		}
	}
}

// P14.3: the last symbol that is not behind, the first of those that stand at one place.
func TestAt(t *testing.T) {
	o := api.Object{Symbols: []api.Symbol{
		{Name: "e", Section: 1, Value: 8}, {Name: "d", Section: 1, Value: 4}, {Name: "c", Section: 1, Value: 8}, {Name: "b", Section: 2, Value: 6},
		{Name: "a", Section: 1, Value: 20}, {Name: "f", Section: 3, Value: -5}, {Name: "g", Section: 3, Value: math.MinInt64}, {Name: "h", Section: 3, Value: -5},
		{Name: "i", Section: api.AbsSection, Value: 7}, {Name: "j", Section: api.NoSection},
	}}
	for _, x := range []struct {
		section int
		off     int64
		want    int
	}{
		{0, 9, -1}, {1, 3, -1}, {1, 4, 1}, {1, 7, 1}, {1, 8, 0}, {1, 9, 0}, {1, 19, 0}, {1, 20, 4}, {1, math.MaxInt64, 4}, {1, math.MinInt64, -1}, {1, 0, -1}, {1, -1, -1},
		{2, 5, -1}, {2, 6, 3}, {2, 100, 3}, {3, 0, 5}, {3, -5, 5}, {3, -6, 6}, {3, math.MinInt64, 6}, {4, 0, -1}, {math.MaxInt, 0, -1}, {math.MinInt, 0, -1}, {-3, 7, -1},
		{api.AbsSection, 6, -1}, {api.AbsSection, 7, 8}, {api.NoSection, -1, -1}, {api.NoSection, 3, 9},
	} {
		if k, is := object.At(o, x.section, x.off); k != max(x.want, 0) || is != (x.want >= 0) {
			t.Errorf("At(%d, %d): %d, %t, not %d", x.section, x.off, k, is, x.want)
		}
	}
	if k, is := object.At(api.Object{}, 0, 0); k != 0 || is {
		t.Errorf("At in nothing: %d, %t", k, is)
	}
}

// P14.3: objects of which one field, or the order, is another one are not the same; nil and empty lists are.
func TestSame(t *testing.T) {
	changes := []func(o *api.Object){
		func(o *api.Object) {},
		func(o *api.Object) { o.Sections[0].Name = ".tex" },
		func(o *api.Object) { o.Sections[0].Kind = 0 },
		func(o *api.Object) { o.Sections[1].Align = 4 },
		func(o *api.Object) { o.Sections[2].Size-- },
		func(o *api.Object) { o.Sections[1].Data[16]++ },
		func(o *api.Object) { o.Sections[1].Data = o.Sections[1].Data[:16] },
		func(o *api.Object) { o.Sections[1].Data = append(o.Sections[1].Data, 0) },
		func(o *api.Object) { o.Sections[0].Relocs[2].Off++ },
		func(o *api.Object) { o.Sections[0].Relocs[2].Type++ },
		func(o *api.Object) { o.Sections[0].Relocs[2].Sym++ },
		func(o *api.Object) { o.Sections[0].Relocs[2].Addend++ },
		func(o *api.Object) { o.Sections[0].Relocs = o.Sections[0].Relocs[:2] },
		func(o *api.Object) { o.Sections[0].Relocs = append(o.Sections[0].Relocs, api.Reloc{}) },
		func(o *api.Object) { slices.Reverse(o.Sections[0].Relocs) },
		func(o *api.Object) { o.Sections = o.Sections[:3] },
		func(o *api.Object) { o.Sections = append(o.Sections, api.Section{}) },
		func(o *api.Object) { slices.Reverse(o.Sections) },
		func(o *api.Object) { o.Sections = nil },
		func(o *api.Object) { o.Symbols[1].Name = "nn" },
		func(o *api.Object) { o.Symbols[1].Section = 0 },
		func(o *api.Object) { o.Symbols[1].Value = 0 },
		func(o *api.Object) { o.Symbols[1].Global = true },
		func(o *api.Object) { o.Symbols = o.Symbols[:5] },
		func(o *api.Object) { o.Symbols = append(o.Symbols, api.Symbol{}) },
		func(o *api.Object) { slices.Reverse(o.Symbols) },
		func(o *api.Object) { o.Symbols = nil },
	}
	for i, x := range changes {
		a := whole()
		x(&a)
		hold(t, a)
		for j, y := range changes {
			b := whole()
			y(&b)
			if got := object.Same(a, b); got != (i == j) {
				t.Errorf("Same of changes %d and %d: %t", i, j, got)
			}
		}
	}
	empty := api.Object{Sections: []api.Section{{Data: []byte{}, Relocs: []api.Reloc{}}}, Symbols: []api.Symbol{}}
	if !object.Same(api.Object{Sections: []api.Section{}}, api.Object{Symbols: []api.Symbol{}}) || !object.Same(empty, api.Object{Sections: []api.Section{{}}}) {
		t.Error("empty lists are not nil ones")
	}
}

// P14.3: what is answered is nobody's else, list by list.
func TestOwn(t *testing.T) {
	for what, copy := range map[string]func(api.Object) api.Object{"Norm": object.Norm, "Clone": object.Clone} {
		o, was := whole(), text(whole())
		first, second := copy(o), copy(o)
		spoil(first)
		if text(o) != was || text(second) != was {
			t.Errorf("%s: one memory", what)
		}
		spoil(o)
		if text(second) != was {
			t.Errorf("%s: the memory that was handed in", what)
		}
		for i := range second.Sections {
			s := &second.Sections[i]
			s.Data, s.Relocs = append(s.Data, 1), append(s.Relocs, api.Reloc{})
		}
		second.Sections, second.Symbols = append(second.Sections, api.Section{}), append(second.Symbols, api.Symbol{})
		if got := second.Sections[0]; string(got.Data) != "0123456789ab\x01" || len(got.Relocs) != 4 || second.Sections[1].Relocs[0] != whole().Sections[1].Relocs[0] {
			t.Errorf("%s: two lists in one memory", what)
		}
	}
}

// Objects of any length are taken, as fast as they are long.
func TestMuch(t *testing.T) {
	n := 1 << 19
	o := api.Object{Sections: []api.Section{filled(".data", 1<<24)}}
	for i := range n {
		o.Symbols = append(o.Symbols, api.Symbol{Name: fmt.Sprintf("%08x", uint32(i)*2654435761), Section: -1 - i%2, Value: int64(i), Global: i%3 == 0})
		o.Sections[0].Relocs = append(o.Sections[0].Relocs, api.Reloc{Sym: i})
	}
	x := object.Norm(o)
	if !slices.IsSortedFunc(x.Symbols, func(a, b api.Symbol) int {
		switch {
		case ruledAhead(a, b):
			return -1
		case ruledAhead(b, a):
			return 1
		}
		return 0
	}) {
		t.Error("Norm")
	}
	for i, r := range x.Sections[0].Relocs {
		if x.Symbols[r.Sym] != o.Symbols[i] {
			t.Fatalf("relocation %d: %v, not %v", i, x.Symbols[r.Sym], o.Symbols[i])
		}
	}
	if e := object.Check(x); e != api.ErrObject {
		t.Errorf("Check: %d", e)
	}
	if k, is := object.Find(o, o.Symbols[n-1].Name); k != n-1 || !is {
		t.Errorf("Find: %d, %t", k, is)
	}
	if k, is := object.At(o, -2, int64(n)); k != n-1 || !is {
		t.Errorf("At: %d, %t", k, is)
	}
	if l := slices.Collect(object.Undefined(o)); len(l) != n/2 {
		t.Errorf("Undefined: %d", len(l))
	}
	if !object.Same(object.Clone(o), o) || object.Same(x, o) {
		t.Error("Same")
	}
}
