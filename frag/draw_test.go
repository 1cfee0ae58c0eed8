package frag_test

import (
	"math"
	"math/rand/v2"
	"slices"
	"strings"
	"testing"

	"cooper/api"
	"cooper/frag"
	"cooper/source"
)

func random() *rand.Rand { return rand.New(rand.NewPCG(15, 1)) }

func one[T any](r *rand.Rand, l ...T) T { return l[r.IntN(len(l))] }

func some[T any](r *rand.Rand, most int, draw func(*rand.Rand) T) []T {
	var l []T
	for range r.IntN(most + 1) {
		l = append(l, draw(r))
	}
	return l
}

func drawnName(r *rand.Rand) string {
	if r.IntN(30) == 0 {
		return strings.Repeat("n", 254+r.IntN(4))
	}
	return one(r, "a", "b", "c", "d", "e", "", ".", ".a", "a")
}

func drawnSection(r *rand.Rand) string {
	if r.IntN(20) == 0 {
		return ".bss." + strings.Repeat("s", 26+r.IntN(4))
	}
	return one(r, ".text", ".data", ".bss", ".bss.x", "a", "", ".bss", ".rodata", ".bssx")
}

func drawnValue(r *rand.Rand) api.Value {
	v := api.Value{Add: one(r, 0, 0, 4, -1, r.Int64())}
	if r.IntN(2) == 0 {
		v.Plus = drawnName(r)
	}
	if r.IntN(4) == 0 {
		v.Minus = drawnName(r)
	}
	return v
}

func drawnOper(r *rand.Rand) api.Oper {
	return api.Oper{Kind: one(r, api.OrTo, api.OrTo, api.OrTo, api.OrReg, api.OrNum, 0), V: drawnValue(r), Lo: r.IntN(9) == 0, Amt: r.IntN(2)}
}

func drawnLine(r *rand.Rand) api.Line {
	return line(one(r, "b.eq", "b.", "cbz", "cbnz", "tbz", "tbnz", "b", "bl", "ret", "", "cbzz"), some(r, 3, drawnOper)...)
}

func drawnBytes(r *rand.Rand) []byte {
	return some(r, 4, func(r *rand.Rand) byte { return byte(r.Uint32()) })
}

// drawnRow is a row of which fields may be that its kind has no need of.
func drawnRow(r *rand.Rand) api.Row {
	x := api.Row{Line: one(r, r.IntN(20), r.IntN(20), -1, math.MaxInt), S: api.Stmt{Kind: r.IntN(10) - 1}}
	if r.IntN(3) == 0 {
		x.S.Labels = some(r, 3, drawnName)
	}
	kind := x.S.Kind
	other := r.IntN(10) == 0
	if kind == api.StInst || other {
		x.S.Line = drawnLine(r)
	}
	if kind == api.StSection || kind == api.StGlobal || kind == api.StEqu || other {
		x.S.Names = some(r, 3, one(r, drawnName, drawnSection))
	}
	if kind == api.StData || kind == api.StAlign || kind == api.StEqu || other {
		x.S.Values = some(r, 4, drawnValue)
		x.S.Size = one(r, 1, 4, 8, 0, -3)
	}
	if kind == api.StAscii || other {
		x.S.Bytes = drawnBytes(r)
	}
	return x
}

// drawnPiece is a piece of which fields may be that its kind has no need of.
func drawnPiece(r *rand.Rand) api.Piece {
	p := api.Piece{Kind: r.IntN(8) - 1, File: r.IntN(3), Line: r.IntN(5)}
	kind := p.Kind
	other := r.IntN(10) == 0
	if kind == api.PcInst || kind == api.PcBranch || other {
		p.L = drawnLine(r)
	}
	if kind == api.PcData || other {
		p.V, p.Size = drawnValue(r), r.IntN(9)
	}
	if kind == api.PcBytes || other {
		p.B = drawnBytes(r)
	}
	if kind == api.PcAlign || other {
		p.Align = r.IntN(14)
	}
	return p
}

func drawnPart(r *rand.Rand) api.Part {
	return api.Part{Name: drawnSection(r), File: r.IntN(3), Line: r.IntN(5), Pieces: some(r, 4, drawnPiece)}
}

func drawnMark(r *rand.Rand) api.Mark {
	m := api.Mark{Name: drawnName(r), File: r.IntN(3), Line: r.IntN(5), Part: r.IntN(7) - 1, Piece: one(r, r.IntN(6), r.IntN(6), -2, math.MaxInt)}
	if r.IntN(3) == 0 {
		m.Equ, m.V = true, drawnValue(r)
	}
	return m
}

func drawnTold(r *rand.Rand) api.Told {
	return api.Told{Name: drawnName(r), File: r.IntN(3), Line: r.IntN(5)}
}

// wild is a unit to which no rows need come.
func wild(r *rand.Rand) api.Unit {
	return api.Unit{Parts: some(r, 5, drawnPart), Marks: some(r, 8, drawnMark), Globals: some(r, 3, drawnTold)}
}

// drawnUnit is what drawn rows come to, or a wild one.
func drawnUnit(r *rand.Rand) api.Unit {
	if r.IntN(3) == 0 {
		return wild(r)
	}
	u, _ := frag.One(r.IntN(16), some(r, 12, drawnRow))
	return u
}

// P15.2, P15.5: drawn rows; what they come to, joined alone, is it.
func TestRowsDrawn(t *testing.T) {
	r := random()
	for range 12000 {
		asked(t, parted(t, r.IntN(16), some(r, one(r, 1, 6, 25), drawnRow)))
	}
}

// P15.2: all rows of up to four of these.
func TestRowsShort(t *testing.T) {
	all := []api.Row{
		{Line: 1, S: api.Stmt{Labels: []string{"a"}}},
		{Line: 2, S: api.Stmt{Kind: api.StInst, Line: line("cbz", to("a"))}},
		{Line: 3, S: api.Stmt{Kind: api.StSection, Names: []string{".bss"}}},
		{Line: 4, S: api.Stmt{Kind: api.StSection, Names: []string{".text"}}},
		{Line: 5, S: api.Stmt{Kind: api.StSection, Names: []string{strings.Repeat("x", 33)}}},
		{Line: 6, S: api.Stmt{Kind: api.StGlobal, Names: []string{"a"}}},
		{Line: 7, S: api.Stmt{Kind: api.StAlign, Values: []api.Value{{Add: 2}}}},
		{Line: 8, S: api.Stmt{Labels: []string{"b"}, Kind: api.StData, Size: 4, Values: []api.Value{{}, {Plus: "a"}}}},
		{Line: 9, S: api.Stmt{Kind: api.StEqu, Names: []string{"n"}, Values: []api.Value{{Add: 5}}}},
	}
	var each func(l []api.Row, left int)
	each = func(l []api.Row, left int) {
		asked(t, parted(t, 0, l))
		if left > 0 {
			for _, x := range all {
				each(append(l[:len(l):len(l)], x), left-1)
			}
		}
	}
	each(nil, 4)
}

// P15.3, P15.5, P15.6: drawn units, joined, and joined in groups.
func TestJoinDrawn(t *testing.T) {
	r := random()
	for range 3000 {
		asked(t, joined(t, some(r, 5, drawnUnit)))
	}
}

// P15.3, P15.4, P15.7: drawn units.
func TestUnitsDrawn(t *testing.T) {
	r := random()
	for range 12000 {
		asked(t, wild(r))
	}
}

// P15.4: drawn units are the same where all that they have is.
func TestSameDrawn(t *testing.T) {
	r := random()
	for range 20000 {
		a := wild(r)
		b := deep(a)
		switch x := wild(r); r.IntN(8) {
		case 0:
			b = x
		case 1:
			b.Parts = append(b.Parts, x.Parts...)
		case 2:
			b.Marks = append(b.Marks, x.Marks...)
		case 3:
			b.Globals = append(b.Globals, x.Globals...)
		case 4:
			for i := range min(len(b.Parts), len(x.Parts)) {
				b.Parts[i].Pieces = x.Parts[i].Pieces
			}
		case 5:
			for i := range min(len(b.Marks), len(x.Marks)) {
				b.Marks[i].V = x.Marks[i].V
			}
		}
		if got, want := frag.Same(a, b), text(a) == text(b); got != want || frag.Same(b, a) != want {
			t.Fatalf("Same of %s and %s: %t", short(text(a)), short(text(b)), got)
		}
	}
}

// P15.1: drawn lines.
func TestGrowsDrawn(t *testing.T) {
	r := random()
	for range 60000 {
		l := drawnLine(r)
		low, high, is := frag.Grows(l)
		if wantLow, wantHigh, want := ruledGrows(l); low != wantLow || high != wantHigh || is != want {
			t.Fatalf("Grows of %+v: %d, %d, %t", l, low, high, is)
		}
	}
}

// P15.2, P15.3, P15.5: a file that is cut anywhere, each part in the section in which it begins, comes to the same when it is joined.
func TestCutDrawn(t *testing.T) {
	r := random()
	draw := func(r *rand.Rand) string {
		return one(r, "a:", "b: c:", "cbz x0, a", "d: tbnz x1, #3, b + 4", "ret", ".data", ".text", ".section .bss", ".section x", ".align 2", ".byte 0, 1", "e: .word a - b", ".ascii \"xy\"", ".equ f, a", ".global a, g")
	}
	for range 5000 {
		l, _, _ := source.Parse(0, strings.Join(some(r, 30, draw), "\n"))
		want, wrong := frag.One(7, l)
		at := r.IntN(len(l) + 1)
		section := ".text"
		for _, x := range l[:at] {
			if x.S.Kind == api.StSection {
				section = x.S.Names[0]
			}
		}
		front, faults := frag.One(7, l[:at])
		enter := api.Row{S: api.Stmt{Kind: api.StSection, Names: []string{section}}}
		if at < len(l) {
			enter.Line = l[at].Line
		}
		back, more := frag.One(7, append([]api.Row{enter}, l[at:]...))
		got := frag.Join(front, back)
		// Nothing but the section's being named where the file is cut may bring a part more, or an earlier line.
		for i, p := range got.Parts {
			if is := slices.ContainsFunc(want.Parts, func(x api.Part) bool { return x.Name == p.Name }); !is && p.Name != section {
				t.Fatalf("cut at %d: a part %q", at, got.Parts[i].Name)
			}
		}
		if !slices.Equal(slices.Concat(faults, more), wrong) || !slices.Equal(got.Globals, want.Globals) || len(got.Marks) != len(want.Marks) {
			t.Fatalf("cut at %d: %s, not %s", at, short(text(got)), short(text(want)))
		}
		for i, m := range got.Marks {
			x := want.Marks[i]
			if got.Parts[m.Part].Name != want.Parts[x.Part].Name || m.Name != x.Name || m.Line != x.Line || m.Piece != x.Piece || m.V != x.V {
				t.Fatalf("cut at %d: %+v, not %+v", at, m, x)
			}
		}
		for _, p := range want.Parts {
			i := slices.IndexFunc(got.Parts, func(x api.Part) bool { return x.Name == p.Name })
			if i < 0 || text(api.Unit{Parts: []api.Part{{Pieces: got.Parts[i].Pieces}}}) != text(api.Unit{Parts: []api.Part{{Pieces: p.Pieces}}}) {
				t.Fatalf("cut at %d: %s, not %s", at, short(text(got)), short(text(want)))
			}
		}
	}
}
