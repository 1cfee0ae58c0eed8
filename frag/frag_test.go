package frag_test

import (
	"fmt"
	"iter"
	"math"
	"slices"
	"strings"
	"testing"

	"cooper/api"
	"cooper/frag"
	"cooper/source"
)

func to(plus string) api.Oper { return api.Oper{Kind: api.OrTo, V: api.Value{Plus: plus}} }

func reg(n int) api.Oper { return api.Oper{Kind: api.OrReg, R: api.Reg{N: n, X: true}} }

func line(name string, opers ...api.Oper) api.Line { return api.Line{Name: name, Opers: opers} }

// inst is an instruction's piece of a line of file 0.
func inst(at int, name string, opers ...api.Oper) api.Piece {
	return api.Piece{Kind: api.PcInst, Line: at, L: line(name, opers...)}
}

func branch(at int, name string, opers ...api.Oper) api.Piece {
	return api.Piece{Kind: api.PcBranch, Line: at, L: line(name, opers...)}
}

func data(at, size int, v api.Value) api.Piece {
	return api.Piece{Kind: api.PcData, Line: at, V: v, Size: size}
}

func raw(at int, b string) api.Piece {
	return api.Piece{Kind: api.PcBytes, Line: at, B: []byte(b)}
}

func align(at, power int) api.Piece {
	return api.Piece{Kind: api.PcAlign, Line: at, Align: power}
}

func rows(t *testing.T, file int, text string) []api.Row {
	t.Helper()
	l, faults, e := source.Parse(file, text)
	if e != api.OK || len(faults) > 0 {
		t.Fatalf("Parse of %q: %v, %d", text, faults, e)
	}
	return l
}

// unit is what a text of a file comes to, with which nothing is wrong.
func unit(t *testing.T, file int, text string) api.Unit {
	t.Helper()
	u, faults := frag.One(file, rows(t, file, text))
	if len(faults) > 0 {
		t.Fatalf("One of %q: %v", text, faults)
	}
	return u
}

// P15.1: which names, and how far they reach.
func TestGrows(t *testing.T) {
	for name, reach := range map[string]int64{
		"b.eq": 1 << 20, "b.al": 1 << 20, "b.": 1 << 20, "b.x y\n": 1 << 20, "b..": 1 << 20, "cbz": 1 << 20, "cbnz": 1 << 20, "tbz": 1 << 15, "tbnz": 1 << 15,
		"": 0, "b": 0, "bl": 0, "B.eq": 0, "bc.eq": 0, "ab.eq": 0, " b.eq": 0, "beq": 0, "cbz ": 0, "CBZ": 0, "cbnzz": 0, "acbz": 0, "cb": 0, "tbz.": 0, "tb": 0, "ctbz": 0,
		"tbn": 0, "tbnzx": 0, "adr": 0, "adrp": 0, "ldr": 0, "bfm": 0, "br": 0, ".b.eq": 0,
	} {
		low, high, is := frag.Grows(line(name, reg(1), to("a")))
		if want := reach != 0; is != want || want && (low != -reach || high != reach-4) || !want && (low != 0 || high != 0) {
			t.Errorf("Grows of %q: %d, %d, %t", name, low, high, is)
		}
	}
}

// P15.1: which operands lead somewhere.
func TestGrowsOpers(t *testing.T) {
	with := func(v api.Value) api.Oper { return api.Oper{Kind: api.OrTo, V: v} }
	for _, x := range []struct {
		l    []api.Oper
		want bool
	}{
		{nil, false}, {[]api.Oper{}, false}, {[]api.Oper{{}}, false},
		{[]api.Oper{to("a")}, true}, {[]api.Oper{to("a b")}, true}, {[]api.Oper{to("..")}, true}, {[]api.Oper{to(".a")}, true}, {[]api.Oper{to(" .")}, true},
		{[]api.Oper{to("")}, false}, {[]api.Oper{to(".")}, false},
		{[]api.Oper{reg(1), to("a")}, true}, {[]api.Oper{to("a"), reg(1)}, false}, {[]api.Oper{to("a"), to("")}, false}, {[]api.Oper{to("."), reg(1), reg(1), to("a")}, true},
		{[]api.Oper{with(api.Value{Plus: "a", Add: -8})}, true}, {[]api.Oper{with(api.Value{Plus: "a", Add: math.MinInt64})}, true}, {[]api.Oper{with(api.Value{Add: 8})}, false},
		{[]api.Oper{with(api.Value{Plus: "a", Minus: "b"})}, false}, {[]api.Oper{with(api.Value{Plus: "a", Minus: "."})}, false}, {[]api.Oper{with(api.Value{Plus: "a", Minus: "a"})}, false},
		{[]api.Oper{with(api.Value{Minus: "b"})}, false}, {[]api.Oper{with(api.Value{Plus: ".", Minus: "b"})}, false},
		{[]api.Oper{{Kind: api.OrNum, V: api.Value{Plus: "a"}}}, false}, {[]api.Oper{{Kind: api.OrMem, V: api.Value{Plus: "a"}}}, false}, {[]api.Oper{{Kind: api.OrCond, V: api.Value{Plus: "a"}}}, false},
		{[]api.Oper{{Kind: 0, V: api.Value{Plus: "a"}}}, false}, {[]api.Oper{{Kind: -3, V: api.Value{Plus: "a"}}}, false},
		{[]api.Oper{{Kind: api.OrTo, V: api.Value{Plus: "a"}, Lo: true, N: 3}}, true},
	} {
		for _, name := range []string{"b.eq", "cbz", "tbnz"} {
			if _, _, is := frag.Grows(line(name, x.l...)); is != x.want {
				t.Errorf("Grows of %s %+v: %t", name, x.l, is)
			}
		}
		if low, high, is := frag.Grows(line("b", x.l...)); low != 0 || high != 0 || is {
			t.Errorf("Grows of b %+v: %d, %d, %t", x.l, low, high, is)
		}
	}
}

// P15.2: of each kind what comes of it, in the section where it stands.
func TestOne(t *testing.T) {
	x := func(l ...api.Piece) []api.Part { return []api.Part{{Name: ".text", Line: 1, Pieces: l}} }
	for _, c := range []struct {
		text string
		want api.Unit
	}{
		{"", api.Unit{}},
		{"\n\n// none\n", api.Unit{}},
		{"a: b.eq a", api.Unit{Parts: x(branch(1, "b.eq", to("a"))), Marks: []api.Mark{{Name: "a", Line: 1}}}},
		{"b a\nb.eq . + 8\ncbz x1, a\nret", api.Unit{Parts: x(inst(1, "b", to("a")), inst(2, "b.eq", api.Oper{Kind: api.OrTo, V: api.Value{Plus: ".", Add: 8}}), branch(3, "cbz", reg(1), to("a")), inst(4, "ret"))}},
		{".align 0\n.align 12", api.Unit{Parts: x(align(1, 0), align(2, 12))}},
		{".byte 1\n.word a, b - c + 2\n.quad -1", api.Unit{Parts: x(data(1, 1, api.Value{Add: 1}), data(2, 4, api.Value{Plus: "a"}), data(2, 4, api.Value{Plus: "b", Minus: "c", Add: 2}), data(3, 8, api.Value{Add: -1}))}},
		{".ascii \"a\\n\"\n.ascii \"\"", api.Unit{Parts: x(raw(1, "a\n"), raw(2, ""))}},
		{"a: b:", api.Unit{Parts: x(), Marks: []api.Mark{{Name: "a", Line: 1}, {Name: "b", Line: 1}}}},
		{"a: .equ n, a + 4", api.Unit{Parts: x(), Marks: []api.Mark{{Name: "a", Line: 1}, {Name: "n", Line: 1, Equ: true, V: api.Value{Plus: "a", Add: 4}}}}},
		{"nop\n.equ n, 5", api.Unit{Parts: x(inst(1, "nop")), Marks: []api.Mark{{Name: "n", Line: 2, Piece: 1, Equ: true, V: api.Value{Add: 5}}}}},
		{".global b, a, b\n.global .x", api.Unit{Globals: []api.Told{{Name: "b", Line: 1}, {Name: "a", Line: 1}, {Name: "b", Line: 1}, {Name: ".x", Line: 2}}}},
		{".text", api.Unit{Parts: x()}},
		{"\n.data\n.text\n.data\n.section x", api.Unit{Parts: []api.Part{{Name: ".data", Line: 2}, {Name: ".text", Line: 3}, {Name: "x", Line: 5}}}},
		{".global a\n.data\na: .byte 0\n.text\nret", api.Unit{
			Parts:   []api.Part{{Name: ".data", Line: 2, Pieces: []api.Piece{data(3, 1, api.Value{})}}, {Name: ".text", Line: 4, Pieces: []api.Piece{inst(5, "ret")}}},
			Marks:   []api.Mark{{Name: "a", Line: 3}},
			Globals: []api.Told{{Name: "a", Line: 1}},
		}},
		// Labels of a line that names a section stand where it was; what comes back to a section stands behind what is there.
		{"a: .data\nb: .word 1, 2\nc: .text\nd: nop\n.section .data\ne: .ascii \"x\"\nf:", api.Unit{
			Parts: []api.Part{
				{Name: ".text", Line: 1, Pieces: []api.Piece{inst(4, "nop")}},
				{Name: ".data", Line: 1, Pieces: []api.Piece{data(2, 4, api.Value{Add: 1}), data(2, 4, api.Value{Add: 2}), raw(6, "x")}},
			},
			Marks: []api.Mark{{Name: "a", Line: 1}, {Name: "b", Line: 2, Part: 1}, {Name: "c", Line: 3, Part: 1, Piece: 2}, {Name: "d", Line: 4}, {Name: "e", Line: 6, Part: 1, Piece: 2}, {Name: "f", Line: 7, Part: 1, Piece: 3}},
		}},
	} {
		got := parted(t, 0, rows(t, 0, c.text))
		if text(got) != text(c.want) {
			t.Errorf("One of %q: %s, not %s", c.text, text(got), text(c.want))
		}
	}
}

// P15.2: the file and the lines stand in all of it, whichever they are.
func TestOneLines(t *testing.T) {
	l := rows(t, 0, "a: cbz x0, a\n.global g\n.byte 1, 2\n.ascii \"a\"\n.align 2\n.equ n, 1\n.data")
	for i, at := range []int{-1, 0, math.MaxInt, math.MinInt, 7, 7, 3} {
		l[i].Line = at
	}
	for _, file := range []int{0, 15, -1, math.MaxInt, math.MinInt} {
		u := parted(t, file, l)
		var got []int
		for _, p := range u.Parts[0].Pieces {
			got = append(got, p.Line)
			if p.File != file {
				t.Errorf("a piece of file %d: %d", file, p.File)
			}
		}
		if want := []int{-1, math.MaxInt, math.MaxInt, math.MinInt, 7}; !slices.Equal(got, want) {
			t.Errorf("pieces of the lines %d, not %d", got, want)
		}
		if p := u.Parts[1]; u.Parts[0].Line != -1 || u.Parts[0].File != file || p.Line != 3 || p.File != file {
			t.Errorf("parts of file %d: %+v", file, u.Parts)
		}
		if want := (api.Mark{Name: "a", File: file, Line: -1}); u.Marks[0] != want {
			t.Errorf("%+v, not %+v", u.Marks[0], want)
		}
		if want := (api.Told{Name: "g", File: file}); u.Globals[0] != want {
			t.Errorf("%+v, not %+v", u.Globals[0], want)
		}
	}
}

// P15.2: what a kind needs and has not is zero, what it does not need counts for nothing, and of a kind that there is not only the labels are looked at.
func TestOneWild(t *testing.T) {
	full := func(kind int) api.Stmt {
		return api.Stmt{
			Kind: kind, Line: line("cbz", to("x")), Names: []string{"p", "q"}, Size: 3,
			Values: []api.Value{{Add: 9, Plus: "v"}, {Minus: "w"}}, Bytes: []byte("xyz"),
		}
	}
	x := func(l ...api.Piece) api.Unit { return api.Unit{Parts: []api.Part{{Name: ".text", Pieces: l}}} }
	for _, c := range []struct {
		s    api.Stmt
		want api.Unit
	}{
		{api.Stmt{Kind: api.StInst}, x(inst(0, ""))},
		{api.Stmt{Kind: api.StSection}, api.Unit{Parts: []api.Part{{}}}},
		{api.Stmt{Kind: api.StGlobal}, api.Unit{}},
		{api.Stmt{Kind: api.StAlign}, x(align(0, 0))},
		{api.Stmt{Kind: api.StData}, api.Unit{}},
		{api.Stmt{Kind: api.StData, Size: 4}, api.Unit{}},
		{api.Stmt{Kind: api.StData, Values: []api.Value{{}}}, x(data(0, 0, api.Value{}))},
		{api.Stmt{Kind: api.StAscii}, x(raw(0, ""))},
		{api.Stmt{Kind: api.StEqu}, api.Unit{Parts: x().Parts, Marks: []api.Mark{{Equ: true}}}},
		{api.Stmt{Kind: api.StEqu, Names: []string{"n"}}, api.Unit{Parts: x().Parts, Marks: []api.Mark{{Name: "n", Equ: true}}}},
		{api.Stmt{Kind: api.StEqu, Values: []api.Value{{Add: 2}}}, api.Unit{Parts: x().Parts, Marks: []api.Mark{{Equ: true, V: api.Value{Add: 2}}}}},
		{api.Stmt{Labels: []string{""}}, api.Unit{Parts: x().Parts, Marks: []api.Mark{{}}}},
		{api.Stmt{Kind: api.StGlobal, Names: []string{"", "."}}, api.Unit{Globals: []api.Told{{}, {Name: "."}}}},
		{full(api.StNone), api.Unit{}},
		{full(-1), api.Unit{}},
		{full(8), api.Unit{}},
		{full(math.MaxInt), api.Unit{}},
		{full(math.MinInt), api.Unit{}},
		{full(api.StInst), x(branch(0, "cbz", to("x")))},
		{full(api.StSection), api.Unit{Parts: []api.Part{{Name: "p"}}}},
		{full(api.StGlobal), api.Unit{Globals: []api.Told{{Name: "p"}, {Name: "q"}}}},
		{full(api.StAlign), x(align(0, 9))},
		{full(api.StData), x(data(0, 3, api.Value{Add: 9, Plus: "v"}), data(0, 3, api.Value{Minus: "w"}))},
		{full(api.StAscii), x(raw(0, "xyz"))},
		{full(api.StEqu), api.Unit{Parts: x().Parts, Marks: []api.Mark{{Name: "p", Equ: true, V: api.Value{Add: 9, Plus: "v"}}}}},
		{api.Stmt{Kind: api.StAlign, Values: []api.Value{{Add: math.MinInt64}}}, x(align(0, math.MinInt64))},
		{api.Stmt{Kind: api.StAlign, Values: []api.Value{{Add: math.MaxInt64, Minus: "a"}}}, x(align(0, math.MaxInt64))},
		{api.Stmt{Kind: api.StData, Size: math.MinInt, Values: []api.Value{{Add: 1}}}, x(data(0, math.MinInt, api.Value{Add: 1}))},
	} {
		got := parted(t, 0, []api.Row{{S: c.s}})
		if text(got) != text(c.want) {
			t.Errorf("One of %+v: %s, not %s", c.s, text(got), text(c.want))
		}
		c.s.Labels = append(c.s.Labels, "l")
		if u := parted(t, 0, []api.Row{{S: c.s}}); u.Parts[0].Name != ".text" || !slices.Contains(u.Marks, api.Mark{Name: "l"}) {
			t.Errorf("One of %+v: %s", c.s, text(u))
		}
	}
}

// P15.2: names that are too long are left out, and nothing else; a part of which nothing came is not there.
func TestOneLong(t *testing.T) {
	name := func(n int) string { return strings.Repeat("n", n) }
	label := func(l ...string) api.Row { return api.Row{Line: 4, S: api.Stmt{Labels: l}} }
	section := func(s string) api.Row {
		return api.Row{Line: 5, S: api.Stmt{Kind: api.StSection, Names: []string{s}}}
	}
	equ := func(s string) api.Row {
		return api.Row{Line: 6, S: api.Stmt{Kind: api.StEqu, Names: []string{s}, Values: []api.Value{{Plus: name(999)}}}}
	}
	global := func(l ...string) api.Row { return api.Row{Line: 7, S: api.Stmt{Kind: api.StGlobal, Names: l}} }
	long := func(l ...int) []api.Fault {
		var faults []api.Fault
		for _, at := range l {
			faults = append(faults, api.Fault{File: 2, Line: at, Err: api.ErrLong})
		}
		return faults
	}
	for _, c := range []struct {
		l                     []api.Row
		want                  []api.Fault
		parts, marks, globals int
	}{
		{[]api.Row{label(name(255))}, nil, 1, 1, 0},
		{[]api.Row{label(name(256))}, long(4), 0, 0, 0},
		{[]api.Row{label("a", name(256), name(255), name(1000))}, long(4, 4), 1, 2, 0},
		{[]api.Row{equ(name(255))}, nil, 1, 1, 0},
		{[]api.Row{equ(name(256))}, long(6), 0, 0, 0},
		{[]api.Row{global(name(255))}, nil, 0, 0, 1},
		{[]api.Row{global(name(256), "a", name(256), "b")}, long(7, 7), 0, 0, 2},
		{[]api.Row{section(name(32))}, nil, 1, 0, 0},
		{[]api.Row{section(name(33))}, long(5), 0, 0, 0},
		{[]api.Row{section(name(255)), label("a"), section(name(32))}, long(5), 2, 1, 0},
		{[]api.Row{global(name(300)), label(name(300)), equ(name(300)), section(name(300)), global(name(300))}, long(7, 4, 6, 5, 7), 0, 0, 0},
	} {
		u := parted(t, 2, c.l)
		_, faults := frag.One(2, c.l)
		if !slices.Equal(faults, c.want) || len(u.Parts) != c.parts || len(u.Marks) != c.marks || len(u.Globals) != c.globals {
			t.Errorf("One of %s: %s, %v, not %v", short(rowTexts(c.l)), short(text(u)), faults, c.want)
		}
	}
	// The part stays what it was, also the one of zeros.
	u, faults := frag.One(0, []api.Row{section("a"), section(name(33)), label("l")})
	if len(faults) != 1 || u.Parts[u.Marks[0].Part].Name != "a" {
		t.Errorf("One: %s, %v", text(u), faults)
	}
	u, faults = frag.One(0, []api.Row{section(".bss"), section(".text" + name(28)), {S: api.Stmt{Kind: api.StInst}}})
	if want := []api.Errno{api.ErrLong, api.ErrBss}; len(faults) != 2 || faults[0].Err != want[0] || faults[1].Err != want[1] || len(u.Parts) != 1 {
		t.Errorf("One: %s, %v", text(u), faults)
	}
	// A line's own names may be as long as they are.
	if u, faults := frag.One(0, []api.Row{{S: api.Stmt{Kind: api.StInst, Line: line(name(999), to(name(999)))}}}); len(faults) != 0 || len(u.Parts[0].Pieces) != 1 {
		t.Errorf("One: %s, %v", short(text(u)), faults)
	}
}

// P15.2: among zeros stands nothing but zeros, alignment, and names.
func TestOneZeros(t *testing.T) {
	for _, c := range []struct {
		text   string
		pieces int
		wrong  int
	}{
		{"", 0, 0}, {"nop", 0, 1}, {"b.eq a", 0, 1}, {"cbz x0, a", 0, 1}, {".align 3", 1, 0}, {".byte 0", 1, 0}, {".quad 0, 0, 0", 3, 0}, {".word 1", 0, 1}, {".word -1", 0, 1},
		{".word a", 0, 1}, {".word a - b", 0, 1}, {".word .", 0, 1}, {".word 0, 1, 0, a, 0 - b, 5 - 5", 3, 3}, {".ascii \"\"", 1, 0}, {".ascii \"\\x00\"", 0, 1}, {".ascii \"abc\"", 0, 1},
		{"a: b: c:", 0, 0}, {".equ n, 5", 0, 0}, {".equ n, a - b + 1", 0, 0}, {".global a", 0, 0}, {"a: nop", 0, 1}, {"a: .word 1", 0, 1}, {".section .bss", 0, 0},
	} {
		for section, zeros := range map[string]bool{".bss": true, ".bss.": true, ".bss.a.b": true, ".bssa": false, "bss": false, "a.bss": false, ".data": false, ".text": false, ".rodata": false, ".bs": false} {
			l := append(rows(t, 3, ".section "+section), rows(t, 3, "\n"+c.text)...)
			u := parted(t, 3, l)
			_, faults := frag.One(3, l)
			pieces, wrong := c.pieces, c.wrong
			if !zeros {
				pieces, wrong = pieces+wrong, 0
			}
			if got := len(u.Parts[0].Pieces); got != pieces {
				t.Errorf("%q in %s: %d pieces, not %d", c.text, section, got, pieces)
			}
			if want := slices.Repeat([]api.Fault{{File: 3, Line: 2, Err: api.ErrBss}}, wrong); !slices.Equal(faults, want) {
				t.Errorf("%q in %s: %v, not %v", c.text, section, faults, want)
			}
		}
	}
	// What is wrong is told row by row, of a row from the left; what stands in another part is as ever.
	l := rows(t, 0, ".section .bss\na: nop\n.word 0, 1, b\n.text\nnop\n.section .bss\nc: .ascii \"x\"\n.word 0\nd:")
	l[1].S.Labels = append(l[1].S.Labels, strings.Repeat("a", 256))
	u, faults := frag.One(0, l)
	want := []api.Fault{{Line: 2, Err: api.ErrLong}, {Line: 2, Err: api.ErrBss}, {Line: 3, Err: api.ErrBss}, {Line: 3, Err: api.ErrBss}, {Line: 7, Err: api.ErrBss}}
	marks := []api.Mark{{Name: "a", Line: 2}, {Name: "c", Line: 7, Piece: 1}, {Name: "d", Line: 9, Piece: 2}}
	if !slices.Equal(faults, want) || !slices.Equal(u.Marks, marks) || len(u.Parts) != 2 || len(u.Parts[0].Pieces) != 2 || len(u.Parts[1].Pieces) != 1 {
		t.Errorf("One: %s, %v", text(u), faults)
	}
}

// P15.3: parts by names, pieces one behind the other, and the numbers as they are then.
func TestJoin(t *testing.T) {
	a := unit(t, 0, "a: nop\n.global g\n.data\nb: .word 1, 2\n.equ n, b")
	b := unit(t, 1, ".section x\n.byte 3\n.data\n.global h\nc: .word 3\nd:")
	c := unit(t, 2, ".text\nret\ne: .data\nf: .section x\ng: .byte 4")
	piece := func(file int, p api.Piece) api.Piece { p.File = file; return p }
	want := api.Unit{
		Parts: []api.Part{
			{Name: ".text", Line: 1, Pieces: []api.Piece{inst(1, "nop"), piece(2, inst(2, "ret"))}},
			{Name: ".data", Line: 3, Pieces: []api.Piece{data(4, 4, api.Value{Add: 1}), data(4, 4, api.Value{Add: 2}), piece(1, data(5, 4, api.Value{Add: 3}))}},
			{Name: "x", File: 1, Line: 1, Pieces: []api.Piece{piece(1, data(2, 1, api.Value{Add: 3})), piece(2, data(5, 1, api.Value{Add: 4}))}},
		},
		Marks: []api.Mark{
			{Name: "a", Line: 1}, {Name: "b", Line: 4, Part: 1}, {Name: "n", Line: 5, Part: 1, Piece: 2, Equ: true, V: api.Value{Plus: "b"}},
			{Name: "c", File: 1, Line: 5, Part: 1, Piece: 2}, {Name: "d", File: 1, Line: 6, Part: 1, Piece: 3},
			{Name: "e", File: 2, Line: 3, Piece: 2}, {Name: "f", File: 2, Line: 4, Part: 1, Piece: 3}, {Name: "g", File: 2, Line: 5, Part: 2, Piece: 1},
		},
		Globals: []api.Told{{Name: "g", Line: 2}, {Name: "h", File: 1, Line: 4}},
	}
	if got := joined(t, []api.Unit{a, b, c}); text(got) != text(want) {
		t.Errorf("Join: %s, not %s", text(got), text(want))
	}
	for _, l := range [][]api.Unit{nil, {}, {{}}, {{}, {}}, {a}, {a, {}}, {{}, a}, {a, a}, {c, b, a}, {a, b, a, b, c}} {
		asked(t, joined(t, l))
	}
	if got := frag.Join(); text(got) != text(api.Unit{}) {
		t.Errorf("Join of none: %s", text(got))
	}
	if got := frag.Join(api.Unit{}, a, api.Unit{}); !frag.Same(got, a) {
		t.Errorf("Join of one: %s", text(got))
	}
}

// P15.3: units that no rows come to: parts of one name, marks of parts and pieces that there are not.
func TestJoinWild(t *testing.T) {
	x := api.Unit{
		Parts: []api.Part{
			{Name: "p", File: 1, Line: 1, Pieces: []api.Piece{raw(1, "a")}},
			{Name: "", File: 2, Line: 2},
			{Name: "p", File: 3, Line: 3, Pieces: []api.Piece{raw(2, "b"), {Kind: 77, Line: 3}}},
			{Name: "q", File: 4, Line: 4, Pieces: []api.Piece{raw(4, "c")}},
			{Name: "p", File: 5, Line: 5, Pieces: []api.Piece{raw(5, "d")}},
		},
		Marks: []api.Mark{
			{Name: "0", Part: 0}, {Name: "1", Part: 1, Piece: 9}, {Name: "2", Part: 2, Piece: -1}, {Name: "3", Part: 3, Piece: 1}, {Name: "4", Part: 4, Piece: 1},
			{Name: "5", Part: 5, Piece: 1, V: api.Value{Add: 1}}, {Name: "-1", Part: -1, Piece: 1, Equ: true}, {Name: "most", Part: math.MaxInt, Piece: 1}, {Name: "least", Part: math.MinInt, Piece: 1},
			{Name: "far", Part: 4, Piece: math.MaxInt},
		},
	}
	at := [][2]int{{0, 0}, {1, 9}, {0, 0}, {2, 1}, {0, 4}, {-1, 0}, {-1, 0}, {-1, 0}, {-1, 0}, {0, math.MinInt + 2}}
	got := joined(t, []api.Unit{x})
	for i, m := range got.Marks {
		was := x.Marks[i]
		if was.Part, was.Piece = at[i][0], at[i][1]; m != was {
			t.Errorf("%+v, not %+v", m, was)
		}
	}
	if l := got.Parts; len(l) != 3 || l[0].File != 1 || l[1].Line != 2 || l[2].Name != "q" || len(l[0].Pieces) != 4 || l[0].Pieces[2].Kind != 77 || string(l[0].Pieces[3].B) != "d" {
		t.Errorf("Join: %s", text(got))
	}
	twice := joined(t, []api.Unit{x, x})
	for i, m := range twice.Marks[len(at):] {
		part, piece := at[i][0], at[i][1]
		if part >= 0 {
			piece += []int{4, 0, 1}[part]
		}
		if m.Part != part || m.Piece != piece {
			t.Errorf("%+v, not in %d, %d", m, part, piece)
		}
	}
	asked(t, x)
	asked(t, got)
	asked(t, twice)
}

// P15.3: names that come again, and parts that are too many, in order.
func TestFaults(t *testing.T) {
	mark := func(name string, file, line int) api.Mark { return api.Mark{Name: name, File: file, Line: line} }
	twice := func(file, line int) api.Fault { return api.Fault{File: file, Line: line, Err: api.ErrTwice} }
	for _, c := range []struct {
		l    []api.Mark
		want []api.Fault
	}{
		{nil, nil},
		{[]api.Mark{mark("a", 1, 1), mark("b", 1, 1), mark("A", 1, 1), mark("", 1, 1), mark("a ", 1, 1)}, nil},
		{[]api.Mark{mark("a", 1, 2), mark("a", 1, 1)}, []api.Fault{twice(1, 1)}},
		{[]api.Mark{mark("", 1, 2), mark("", 0, 3)}, []api.Fault{twice(0, 3)}},
		{[]api.Mark{mark("a", 9, 9), mark("a", 5, 5), mark("b", 5, 5), mark("a", 5, 4), mark("b", 4, 6), mark("a", 5, 5)}, []api.Fault{twice(4, 6), twice(5, 4), twice(5, 5), twice(5, 5)}},
		{[]api.Mark{{Name: "a", Equ: true}, {Name: "a", Line: 1}, {Name: "a", Line: 2, Equ: true}}, []api.Fault{twice(0, 1), twice(0, 2)}},
		{[]api.Mark{mark("a", 0, 0), mark("a", -1, 2), mark("a", math.MinInt, math.MaxInt), mark("a", math.MaxInt, math.MinInt), mark("a", -1, math.MinInt)}, []api.Fault{twice(math.MinInt, math.MaxInt), twice(-1, math.MinInt), twice(-1, 2), twice(math.MaxInt, math.MinInt)}},
	} {
		u := api.Unit{Marks: c.l, Globals: []api.Told{{Name: "a"}, {Name: "a"}}}
		if got := frag.Faults(u); !slices.Equal(got, c.want) {
			t.Errorf("Faults of %v: %v, not %v", c.l, got, c.want)
		}
		asked(t, u)
	}
	for n := range 70 {
		var u api.Unit
		var want []api.Fault
		for i := range n {
			u.Parts = append(u.Parts, api.Part{Name: "p", File: 1, Line: 9 - i/66})
			if i >= 64 {
				want = append([]api.Fault{{File: 1, Line: 9 - i/66, Err: api.ErrLong}}, want...)
			}
		}
		if n == 69 {
			u.Marks = []api.Mark{mark("a", 1, 8), mark("a", 1, 8), mark("a", 1, 9), mark("a", 2, 0), mark("a", 0, 11)}
			want = []api.Fault{twice(0, 11), {File: 1, Line: 8, Err: api.ErrLong}, {File: 1, Line: 8, Err: api.ErrLong}, {File: 1, Line: 8, Err: api.ErrLong}, twice(1, 8)}
			want = append(want, api.Fault{File: 1, Line: 9, Err: api.ErrLong}, api.Fault{File: 1, Line: 9, Err: api.ErrLong}, twice(1, 9), twice(2, 0))
		}
		if got := frag.Faults(u); !slices.Equal(got, want) {
			t.Errorf("Faults of %d parts: %v, not %v", n, got, want)
		}
	}
}

// P15.4, P15.7: of each piece one item.
func TestItems(t *testing.T) {
	four := api.Item{Kind: api.ItBytes, Size: 4}
	leads := func(to int, add, reach int64) api.Item {
		return api.Item{Kind: api.ItBranch, To: to, Add: add, Low: -reach, High: reach - 4}
	}
	away := func(plus string, add int64, minus string) api.Oper {
		return api.Oper{Kind: api.OrTo, V: api.Value{Plus: plus, Add: add, Minus: minus}}
	}
	marks := []api.Mark{
		{Name: "n", Part: 1, Equ: true}, {Name: "n", Part: 1, Piece: 3}, {Name: "a", Part: 1, Piece: 2}, {Name: "a", Part: 1, Piece: 7}, {Name: "e", Equ: true, Part: 1, Piece: 4},
		{Name: "o", Part: 0, Piece: 1}, {Name: "o", Part: 1}, {Name: "far", Part: 1, Piece: math.MaxInt}, {Name: "neg", Part: 1, Piece: -5}, {Name: ".", Part: 1}, {Name: "", Part: 1}, {Name: "lost", Part: -1},
	}
	for _, c := range []struct {
		p    api.Piece
		want api.Item
	}{
		{api.Piece{}, api.Item{Kind: api.ItBytes}},
		{api.Piece{Kind: 6, Size: 4, B: []byte("abc"), Align: 3, L: line("cbz", to("a"))}, api.Item{Kind: api.ItBytes}},
		{api.Piece{Kind: -1, Size: 4}, api.Item{Kind: api.ItBytes}},
		{api.Piece{Kind: math.MaxInt, Size: 4}, api.Item{Kind: api.ItBytes}},
		{inst(1, "nop"), four},
		{inst(1, "cbz", to("a")), four},
		{api.Piece{Kind: api.PcInst, Size: 9, B: []byte("abc"), Align: 3}, four},
		{data(1, 8, api.Value{Add: 3}), api.Item{Kind: api.ItBytes, Size: 8}},
		{data(1, 0, api.Value{}), api.Item{Kind: api.ItBytes}},
		{data(1, -3, api.Value{}), api.Item{Kind: api.ItBytes, Size: -3}},
		{data(1, math.MaxInt, api.Value{}), api.Item{Kind: api.ItBytes, Size: math.MaxInt64}},
		{api.Piece{Kind: api.PcData, Size: 2, B: []byte("abc"), Align: 3, L: line("cbz", to("a"))}, api.Item{Kind: api.ItBytes, Size: 2}},
		{raw(1, ""), api.Item{Kind: api.ItBytes}},
		{raw(1, "abcde"), api.Item{Kind: api.ItBytes, Size: 5}},
		{api.Piece{Kind: api.PcBytes, B: []byte("abc"), Size: 9, Align: 3}, api.Item{Kind: api.ItBytes, Size: 3}},
		{align(1, 12), api.Item{Kind: api.ItAlign, Align: 12}},
		{align(1, -4), api.Item{Kind: api.ItAlign, Align: -4}},
		{api.Piece{Kind: api.PcAlign, Align: 2, Size: 9, B: []byte("abc"), L: line("cbz", to("a"))}, api.Item{Kind: api.ItAlign, Align: 2}},
		{branch(1, "b.eq", to("a")), leads(2, 0, 1<<20)},
		{branch(1, "cbnz", reg(1), away("a", -12, "")), leads(2, -12, 1<<20)},
		{branch(1, "tbz", reg(1), reg(2), away("a", math.MaxInt64, "")), leads(2, math.MaxInt64, 1<<15)},
		{branch(1, "tbnz", to("far")), leads(math.MaxInt, 0, 1<<15)},
		{branch(1, "cbz", to("neg")), leads(-5, 0, 1<<20)},
		{branch(1, "cbz", to("n")), four}, {branch(1, "cbz", to("e")), four}, {branch(1, "cbz", to("o")), four}, {branch(1, "cbz", to("none")), four}, {branch(1, "cbz", to("A")), four},
		{branch(1, "cbz", to(".")), four}, {branch(1, "cbz", to("")), four}, {branch(1, "cbz", to("lost")), four}, {branch(1, "cbz", away("a", 0, "a")), four}, {branch(1, "cbz", to("a"), reg(1)), four},
		{branch(1, "b", to("a")), four}, {branch(1, "bl", to("a")), four}, {branch(1, "cbz"), four}, {branch(1, "", to("a")), four},
		{api.Piece{Kind: api.PcBranch, Size: 9, B: []byte("abc"), Align: 3}, four},
	} {
		u := api.Unit{Parts: []api.Part{{Name: "x", Pieces: []api.Piece{inst(1, "ret")}}, {Name: "y", Pieces: []api.Piece{c.p, inst(1, "ret"), c.p}}, {Name: "z"}}, Marks: marks}
		if got, want := frag.Items(u, 1), []api.Item{c.want, four, c.want}; !slices.Equal(got, want) {
			t.Errorf("Items of %s: %+v, not %+v", pieceText(c.p), got, want)
		}
		if got := frag.Items(u, 0); !slices.Equal(got, []api.Item{four}) {
			t.Errorf("Items of another part: %+v", got)
		}
		for _, part := range []int{2, 3, -1, math.MaxInt, math.MinInt} {
			if got := frag.Items(u, part); len(got) != 0 {
				t.Errorf("Items of %d: %+v", part, got)
			}
		}
		asked(t, u)
	}
	// To the pieces of another file, when they stand in one part.
	u := unit(t, 0, "cbz x0, a\nnop\nb: ret")
	j := frag.Join(u, unit(t, 1, "tbz x0, #1, b - 4\na: ret"))
	if got, want := frag.Items(j, 0), []api.Item{leads(4, 0, 1<<20), four, four, leads(2, -4, 1<<15), four}; !slices.Equal(got, want) {
		t.Errorf("Items: %+v, not %+v", got, want)
	}
	if got := frag.Items(u, 0); got[0] != four {
		t.Errorf("Items of the first one: %+v", got)
	}
}

// P15.4: pieces part by part, wherever one stops, as they were when it was asked for.
func TestPieces(t *testing.T) {
	u := frag.Join(unit(t, 0, "a: cbz x0, a\n.section none\n.data\n.ascii \"abc\"\n.word 1, 2\n.text\nret"), unit(t, 1, ".section more\n.data\n.align 2"))
	told(t, u)
	told(t, api.Unit{})
	var parts []int
	for part := range frag.Pieces(u) {
		parts = append(parts, part)
	}
	if want := []int{0, 0, 2, 2, 2, 2}; !slices.Equal(parts, want) {
		t.Errorf("Pieces of the parts %d, not %d", parts, want)
	}
	all := frag.Pieces(u)
	next, stop := iter.Pull2(all)
	defer stop()
	_, first, _ := next()
	for _, p := range all {
		spoilPiece(p)
	}
	if _, p, is := next(); !is || p.L.Name != "ret" || first.L.Opers[1].V.Plus != "a" {
		t.Errorf("Pieces, two at once: %s, %s", pieceText(first), pieceText(p))
	}
}

// P15.4: the first one of a name.
func TestMark(t *testing.T) {
	u := unit(t, 0, "a: nop\nb: .equ c, a - b\n.data\na:")
	for name, want := range map[string]api.Mark{
		"a": {Name: "a", Line: 1},
		"b": {Name: "b", Line: 2, Piece: 1},
		"c": {Name: "c", Line: 2, Piece: 1, Equ: true, V: api.Value{Plus: "a", Minus: "b"}},
		"":  {}, "d": {}, "A": {}, ".data": {}, "a ": {},
	} {
		if got, is := frag.Mark(u, name); got != want || is != (want.Name != "") {
			t.Errorf("Mark %q: %+v, %t", name, got, is)
		}
	}
	if m, is := frag.Mark(api.Unit{Marks: []api.Mark{{Name: "x"}, {Part: 5, V: api.Value{Add: 3}}, {Part: 6}}}, ""); !is || m != (api.Mark{Part: 5, V: api.Value{Add: 3}}) {
		t.Errorf("Mark of the empty name: %+v, %t", m, is)
	}
	if m, is := frag.Mark(api.Unit{}, "a"); is || m != (api.Mark{}) {
		t.Errorf("Mark of none: %+v, %t", m, is)
	}
}

// whole is a unit in which each field of each thing is something.
func whole() api.Unit {
	o := api.Oper{Kind: 1, R: api.Reg{N: 2, X: true}, M: api.Reg{N: 3}, Mod: 4, Amt: 5, N: 6, V: api.Value{Add: 7, Plus: "p", Minus: "m"}, Lo: true, Mode: 8}
	piece := func(n int) api.Piece {
		return api.Piece{Kind: n, File: 2, Line: 3, L: line("l", o, o), V: api.Value{Add: 4, Plus: "a", Minus: "b"}, Size: 5, B: []byte("xyz"), Align: 6}
	}
	return api.Unit{
		Parts:   []api.Part{{Name: "p", File: 1, Line: 2, Pieces: []api.Piece{piece(1), piece(2)}}, {Name: "q", File: 3, Line: 4, Pieces: []api.Piece{piece(3)}}},
		Marks:   []api.Mark{{Name: "m", File: 1, Line: 2, Part: 0, Piece: 1, Equ: true, V: api.Value{Add: 5, Plus: "x", Minus: "y"}}, {Name: "n", Part: 1}},
		Globals: []api.Told{{Name: "g", File: 1, Line: 2}, {Name: "h"}},
	}
}

// P15.4: each field, and each list's length, is held against the other one's.
func TestSame(t *testing.T) {
	last := func(u *api.Unit) *api.Piece { return &u.Parts[0].Pieces[1] }
	for i, change := range []func(u *api.Unit){
		func(u *api.Unit) { u.Parts[1].Name = "p" }, func(u *api.Unit) { u.Parts[1].File++ }, func(u *api.Unit) { u.Parts[1].Line++ }, func(u *api.Unit) { u.Parts[1].Pieces = nil },
		func(u *api.Unit) { u.Parts = u.Parts[:1] }, func(u *api.Unit) { u.Parts = append(u.Parts, api.Part{}) }, func(u *api.Unit) { slices.Reverse(u.Parts) },
		func(u *api.Unit) { u.Parts[0].Pieces = append(u.Parts[0].Pieces, api.Piece{}) }, func(u *api.Unit) { slices.Reverse(u.Parts[0].Pieces) },
		func(u *api.Unit) { last(u).Kind++ }, func(u *api.Unit) { last(u).File++ }, func(u *api.Unit) { last(u).Line++ }, func(u *api.Unit) { last(u).Size++ }, func(u *api.Unit) { last(u).Align++ },
		func(u *api.Unit) { last(u).L.Name = "" }, func(u *api.Unit) { last(u).L.Opers = nil }, func(u *api.Unit) { last(u).L.Opers = last(u).L.Opers[:1] }, func(u *api.Unit) { last(u).L.Opers[1].N++ },
		func(u *api.Unit) { last(u).L.Opers[1].V.Minus = "M" }, func(u *api.Unit) { last(u).V.Add++ }, func(u *api.Unit) { last(u).V.Plus = "" }, func(u *api.Unit) { last(u).V.Minus = "" },
		func(u *api.Unit) { last(u).B[2]++ }, func(u *api.Unit) { last(u).B = append(last(u).B, 0) }, func(u *api.Unit) { last(u).B = nil },
		func(u *api.Unit) { u.Marks[0].Name = "M" }, func(u *api.Unit) { u.Marks[0].File++ }, func(u *api.Unit) { u.Marks[0].Line++ }, func(u *api.Unit) { u.Marks[0].Part++ }, func(u *api.Unit) { u.Marks[0].Piece++ },
		func(u *api.Unit) { u.Marks[0].Equ = false }, func(u *api.Unit) { u.Marks[0].V.Add++ }, func(u *api.Unit) { u.Marks[0].V.Plus = "" }, func(u *api.Unit) { u.Marks[0].V.Minus = "" },
		func(u *api.Unit) { u.Marks = u.Marks[:1] }, func(u *api.Unit) { u.Marks = nil }, func(u *api.Unit) { slices.Reverse(u.Marks) }, func(u *api.Unit) { u.Marks = append(u.Marks, api.Mark{}) },
		func(u *api.Unit) { u.Globals[0].Name = "G" }, func(u *api.Unit) { u.Globals[0].File++ }, func(u *api.Unit) { u.Globals[0].Line++ }, func(u *api.Unit) { u.Globals = u.Globals[1:] },
		func(u *api.Unit) { u.Globals = append(u.Globals, api.Told{}) }, func(u *api.Unit) { slices.Reverse(u.Globals) }, func(u *api.Unit) { u.Globals = nil },
	} {
		a, b := whole(), whole()
		if !frag.Same(a, b) {
			t.Error("Same of one")
		}
		change(&b)
		if frag.Same(a, b) || frag.Same(b, a) {
			t.Errorf("Same, change %d: %s", i, text(b))
		}
	}
	nothing := api.Unit{Parts: []api.Part{{Pieces: []api.Piece{{L: api.Line{Opers: []api.Oper{}}, B: []byte{}}}}, {Pieces: []api.Piece{}}}, Marks: []api.Mark{}, Globals: []api.Told{}}
	if !frag.Same(nothing, api.Unit{Parts: []api.Part{{Pieces: []api.Piece{{}}}, {}}}) || !frag.Same(api.Unit{Parts: []api.Part{}}, api.Unit{}) {
		t.Error("Same of empty lists and of none")
	}
}

// What is answered stands in memory of its own, each list for itself.
func TestOwn(t *testing.T) {
	u, was := whole(), text(whole())
	first, second := frag.Join(u), frag.Join(u)
	spoil(first)
	if text(u) != was || text(second) != was {
		t.Error("Join: one memory")
	}
	spoil(u)
	if text(second) != was {
		t.Error("Join: the memory that was handed in")
	}
	l := rows(t, 0, "a: cbz x0, a\n.ascii \"abc\"\n.word a, 2\n.equ n, a\n.global a, b")
	l = slices.Concat(l, l)
	u, _ = frag.One(0, l)
	again, _ := frag.One(0, l)
	was = text(u)
	spoilRows(l)
	if text(u) != was {
		t.Error("One: the memory that was handed in")
	}
	spoilPiece(u.Parts[0].Pieces[0])
	spoilPiece(u.Parts[0].Pieces[1])
	u.Parts[0].Pieces[0].L, u.Parts[0].Pieces[1].B = again.Parts[0].Pieces[0].L, again.Parts[0].Pieces[1].B
	if text(u) != was {
		t.Error("One: two lists in one memory")
	}
}

// Much of it goes as fast as it is long.
func TestMuch(t *testing.T) {
	n := 1 << 17
	var l []api.Row
	for i := range n {
		name := fmt.Sprintf("n%d", i)
		l = append(l, api.Row{Line: i, S: api.Stmt{Kind: api.StSection, Names: []string{fmt.Sprintf("s%d", i%(n/4))}}})
		l = append(l, api.Row{Line: i, S: api.Stmt{Labels: []string{name}, Kind: api.StInst, Line: line("cbz", to(name))}})
	}
	u, faults := frag.One(1, l)
	if len(faults) != 0 || len(u.Parts) != n/4 || len(u.Marks) != n || len(u.Parts[n/4-1].Pieces) != 4 {
		t.Fatalf("One: %d faults, %d parts, %d marks", len(faults), len(u.Parts), len(u.Marks))
	}
	var apart []api.Unit
	for i := range n {
		apart = append(apart, api.Unit{Parts: []api.Part{{Name: "p", Pieces: []api.Piece{branch(i, "cbz", to(fmt.Sprint(i)))}}}, Marks: []api.Mark{{Name: fmt.Sprint(i / 2), Line: -i}}})
	}
	j := frag.Join(apart...)
	if len(j.Parts) != 1 || len(j.Parts[0].Pieces) != n || j.Marks[n-1].Piece != n-1 {
		t.Fatalf("Join: %d parts", len(j.Parts))
	}
	if got := frag.Items(j, 0); len(got) != n || got[n/2-1].To != n-2 || got[n/2].Kind != api.ItBytes {
		t.Errorf("Items: %d", len(got))
	}
	if got := frag.Faults(j); len(got) != n/2 || got[0].Line != 1-n {
		t.Errorf("Faults: %d", len(got))
	}
	if got := frag.Faults(frag.Join(u, u)); len(got) != n+n/4-64 {
		t.Errorf("Faults of all twice: %d", len(got))
	}
	if m, is := frag.Mark(u, fmt.Sprintf("n%d", n-1)); !is || m.Piece != 3 || m.Part != n/4-1 {
		t.Errorf("Mark: %+v, %t", m, is)
	}
	pieces := 0
	for range frag.Pieces(u) {
		pieces++
	}
	if pieces != n || !frag.Same(u, frag.Join(u)) || frag.Same(u, j) {
		t.Errorf("%d pieces", pieces)
	}
}
