package place_test

import (
	"math"
	"math/rand/v2"
	"slices"
	"strings"
	"testing"

	"cooper/api"
	"cooper/frag"
	"cooper/place"
	"cooper/source"
)

func random() *rand.Rand { return rand.New(rand.NewPCG(17, 1)) }

func one[T any](r *rand.Rand, l ...T) T { return l[r.IntN(len(l))] }

func some[T any](r *rand.Rand, most int, draw func(*rand.Rand) T) []T {
	var l []T
	for range r.IntN(most + 1) {
		l = append(l, draw(r))
	}
	return l
}

func drawnName(r *rand.Rand) string {
	return one(r, "a", "b", "c", "d", "e", "f", "g", "h", "a", "b", "", ".", "no")
}

func drawnNumber(r *rand.Rand) int64 {
	return one(r, 0, 0, 0, 0, r.Int64N(20)-6, r.Int64N(20)-6, r.Int64N(20)-6, math.MinInt64, math.MaxInt64, r.Int64())
}

func drawnValue(r *rand.Rand) api.Value {
	v := api.Value{Add: drawnNumber(r)}
	if r.IntN(4) > 0 {
		v.Plus = drawnName(r)
	}
	if r.IntN(3) == 0 {
		v.Minus = drawnName(r)
	}
	return v
}

func drawnOper(r *rand.Rand) api.Oper {
	return api.Oper{Kind: one(r, api.OrTo, api.OrTo, api.OrNum, api.OrMem, api.OrReg, 0, -1), V: drawnValue(r), Lo: r.IntN(6) == 0, N: r.Int64N(2)}
}

func drawnLine(r *rand.Rand) api.Line {
	return api.Line{Name: one(r, "b.eq", "cbz", "tbz", "tbnz", "b", "ret", ""), Opers: some(r, 3, drawnOper)}
}

// drawnBranch is a branch that mostly may have to be two.
func drawnBranch(r *rand.Rand) api.Piece {
	o := api.Oper{Kind: api.OrTo, V: api.Value{Plus: drawnName(r), Add: one(r, 0, 0, 0, 4, -8, r.Int64N(100)-50)}}
	return branch(one(r, "tbz", "tbnz", "tbz", "cbz"), o)
}

// drawnPiece is a piece of which some may not be, or not be so long.
func drawnPiece(r *rand.Rand) api.Piece {
	p := api.Piece{Kind: one(r, 1, 2, 3, 3, 4, 5, 1, 2, 0, 6, -1)}
	switch r.IntN(6) {
	case 0, 1:
		p = drawnBranch(r)
	case 2:
		p.L = drawnLine(r)
	}
	if p.Kind == api.PcData {
		p.Size = one(r, 1, 4, 8, 1, 4, 8, 2, 100, 16000, 32000, 32768-r.IntN(20))
	}
	if p.Kind == api.PcAlign {
		p.Align = r.IntN(5)
	}
	switch r.IntN(300) {
	case 0:
		p.Size, p.Align = -1, 13
	case 1:
		p.Size = 1<<20 + 4 - r.IntN(9)
	}
	p.B = some(r, 3, func(r *rand.Rand) byte { return byte(r.Uint32()) })
	p.File, p.Line = r.IntN(3), r.IntN(50)
	return p
}

func drawnPart(r *rand.Rand) api.Part {
	return api.Part{Name: drawnName(r), File: r.IntN(3), Line: r.IntN(50), Pieces: some(r, one(r, 2, 6, 12), drawnPiece)}
}

// drawnMark is a mark in one of so many parts, mostly.
func drawnMark(r *rand.Rand, name string, u api.Unit) api.Mark {
	m := api.Mark{Name: name, File: r.IntN(3), Line: r.IntN(50), Part: r.IntN(len(u.Parts) + 1)}
	if m.Part < len(u.Parts) {
		m.Piece = r.IntN(len(u.Parts[m.Part].Pieces) + 1)
	}
	switch r.IntN(40) {
	case 0:
		m.Part = one(r, -1, -2, -3, math.MaxInt, math.MinInt)
	case 1:
		m.Piece = one(r, -1, 20, math.MaxInt, math.MinInt)
	}
	if m.Equ = r.IntN(2) == 0; m.Equ {
		m.V = drawnValue(r)
	}
	return m
}

func drawnTold(r *rand.Rand) api.Told {
	return api.Told{Name: drawnName(r), File: r.IntN(3), Line: r.IntN(50)}
}

// wild is a unit to which no files need come.
func wild(r *rand.Rand) api.Unit {
	u := api.Unit{Parts: some(r, 4, drawnPart), Globals: some(r, 4, drawnTold)}
	for range r.IntN(12) {
		u.Marks = append(u.Marks, drawnMark(r, drawnName(r), u))
	}
	return u
}

// distinct is a unit in which no two marks have one name.
func distinct(r *rand.Rand) api.Unit {
	u := wild(r)
	u.Marks = nil
	for _, name := range []string{"a", "b", "c", "d", "e", "f", "g", "h", "", "."} {
		if r.IntN(4) > 0 {
			u.Marks = append(u.Marks, drawnMark(r, name, u))
		}
	}
	return u
}

// wildLayout is a layout that need not be the unit's.
func wildLayout(r *rand.Rand, u api.Unit) api.Layout {
	l, _ := place.Lay(u)
	for i := range l.At {
		switch r.IntN(4) {
		case 0:
			l.At[i] = l.At[i][:r.IntN(len(l.At[i])+1)]
		case 1:
			l.At[i] = append(l.At[i], drawnNumber(r))
		case 2:
			if n := len(l.At[i]); n > 0 {
				l.At[i][r.IntN(n)] = drawnNumber(r)
			}
		}
	}
	if r.IntN(3) == 0 {
		l.At = l.At[:r.IntN(len(l.At)+1)]
	}
	return l
}

func drawnText(r *rand.Rand) string {
	names := []string{"a", "b", "c", "d", "e", "f", "g", "h"}
	r.Shuffle(len(names), func(i, j int) { names[i], names[j] = names[j], names[i] })
	line := func(r *rand.Rand) string {
		return one(r, "nop", "cbz x0, "+one(r, names...), "tbz x0, #3, "+one(r, names...)+" + 4", "b . + 8", ".align 3", ".byte 1", ".word 1, 2", ".data", ".text", ".section x", ".ascii \"abc\"", ".global "+one(r, names...), "ret")
	}
	value := func(r *rand.Rand) string {
		return one(r, "8", "a", "b + 4", "c - d", "e - 8", ".", ". - a", "g + h", "f - 1 - c", "no", "h - no", "d - . + 1", "0 - b")
	}
	l := some(r, 12, line)
	for _, name := range names[:r.IntN(9)] {
		l = append(l, one(r, name+":", name+": nop", ".equ "+name+", "+value(r), ".equ "+name+", "+value(r)), line(r))
	}
	l = append(l, some(r, 4, line)...)
	r.Shuffle(len(l), func(i, j int) { l[i], l[j] = l[j], l[i] })
	return strings.Join(l, "\n")
}

// P17.1, P17.3 to P17.7: drawn files.
func TestFilesDrawn(t *testing.T) {
	r := random()
	counts := map[api.Errno]int{}
	for range 6000 {
		var l []api.Unit
		for file := range 1 + r.IntN(3) {
			rows, _, _ := source.Parse(file, drawnText(r))
			u, _ := frag.One(file, rows)
			l = append(l, u)
		}
		u := frag.Join(l...)
		_, faults := place.Symbols(u, laid(t, u))
		for _, f := range faults {
			counts[f.Err]++
		}
		counts[api.OK] += len(asked(t, u, laid(t, u)))
	}
	for _, e := range []api.Errno{api.OK, api.ErrNone, api.ErrRange, api.ErrCycle, api.ErrEqu} {
		if counts[e] < 200 {
			t.Errorf("%d of %d", counts[e], e)
		}
	}
}

// P17.1, P17.3 to P17.5, P17.7: drawn units, in their own layouts and in others.
func TestUnitsDrawn(t *testing.T) {
	r := random()
	for range 12000 {
		u := wild(r)
		asked(t, u, laid(t, u))
		asked(t, u, wildLayout(r, u))
	}
}

// far is a unit with branches that are about as far from where they lead as they reach.
func far(r *rand.Rand) api.Unit {
	piece := func(r *rand.Rand) api.Piece {
		switch r.IntN(6) {
		case 0:
			return data(32768 - r.IntN(30))
		case 1:
			return data(one(r, 16384-r.IntN(20), 16384, 4, 100))
		case 2:
			return align(r.IntN(5))
		}
		return drawnBranch(r)
	}
	var u api.Unit
	for range 1 + r.IntN(3) {
		u.Parts = append(u.Parts, part(some(r, 14, piece)...))
	}
	for range 14 {
		m := label(drawnName(r), r.IntN(len(u.Parts)), 0)
		m.Piece = r.IntN(len(u.Parts[m.Part].Pieces) + 1)
		m.Equ = r.IntN(9) == 0
		u.Marks = append(u.Marks, m)
	}
	return u
}

// P17.1, P17.3, P17.7: drawn units of which some branches are long.
func TestLongDrawn(t *testing.T) {
	r := random()
	counts := map[bool]int{}
	for range 6000 {
		u := far(r)
		l := laid(t, u)
		asked(t, u, l)
		for _, x := range l.Long {
			for _, is := range x {
				counts[is]++
			}
		}
	}
	if counts[true] < 1000 || counts[false] < 1000 {
		t.Errorf("long: %v", counts)
	}
}

// P17.6: drawn units whose marks stand in another order.
func TestOrdersDrawn(t *testing.T) {
	r := random()
	byMark := func(a, b api.Fault) int { return (a.File-b.File)*1000000 + (a.Line-b.Line)*1000 + int(a.Err-b.Err) }
	for range 12000 {
		u := distinct(r)
		l := laid(t, u)
		syms := asked(t, u, l)
		_, faults := place.Symbols(u, l)
		r.Shuffle(len(u.Marks), func(i, j int) { u.Marks[i], u.Marks[j] = u.Marks[j], u.Marks[i] })
		other, more := place.Symbols(u, l)
		slices.SortFunc(faults, byMark)
		slices.SortFunc(more, byMark)
		if !slices.Equal(syms, other) || !slices.Equal(faults, more) {
			t.Fatalf("Symbols of %s: %v, %v, not %v, %v", short(text(u)), other, more, syms, faults)
		}
		if again, _ := place.Lay(u); !place.Same(l, again) {
			t.Fatalf("Lay of %s: %s, not %s", short(text(u)), layoutText(again), layoutText(l))
		}
	}
}

// P17.3: all .equs of three names, of the parts of two labels, of the place, of a name known outside, and of none.
func TestEqusShort(t *testing.T) {
	var values []api.Value
	parts := []string{"", "x", "y", "a", ".", "ext", "no"}
	for _, plus := range parts {
		for _, minus := range parts {
			values = append(values, api.Value{Add: 5, Plus: plus, Minus: minus})
		}
	}
	u := api.Unit{Parts: []api.Part{part(inst("nop"), inst("nop"))}, Globals: []api.Told{{Name: "ext"}, {Name: "y"}}}
	l := laid(t, u)
	for _, x := range values {
		for _, y := range values {
			for _, z := range []api.Value{{Plus: "x"}, {Plus: "y", Minus: "x"}, {Plus: "no", Minus: "x"}, {Plus: "ext", Minus: "y"}, {Add: 2, Minus: "y"}} {
				u.Marks = []api.Mark{{Name: "z", Line: 1, Equ: true, V: z}, {Name: "x", Line: 2, Equ: true, V: x, Piece: 1}, {Name: "a", Line: 3}, {Name: "y", Line: 4, Equ: true, V: y}}
				asked(t, u, l)
			}
		}
	}
}

// P17.2, P17.4: drawn values, and lines of them, with drawn symbols.
func TestValuesDrawn(t *testing.T) {
	r := random()
	symbol := func(r *rand.Rand) api.Symbol {
		return api.Symbol{Name: drawnName(r), Section: one(r, 0, 0, 0, 1, 1, 2, -1, -2, -2, -3, math.MaxInt, math.MinInt), Value: drawnNumber(r), Global: r.IntN(2) == 0}
	}
	counts := map[api.Errno]int{}
	for range 60000 {
		syms := some(r, 12, symbol)
		part, off := one(r, 0, 0, 1, 2, -1, -2, -3, math.MaxInt, math.MinInt), drawnNumber(r)
		_, e := valued(t, drawnValue(r), part, off, syms...)
		counts[e]++
		bound(t, drawnLine(r), part, off, syms...)
	}
	for _, e := range []api.Errno{api.OK, api.ErrNone, api.ErrEqu} {
		if counts[e] < 2000 {
			t.Errorf("%d of %d", counts[e], e)
		}
	}
}

// P17.1: drawn layouts are the same where all their lists are.
func TestSameDrawn(t *testing.T) {
	r := random()
	same := 0
	for range 20000 {
		u := wild(r)
		a, b := wildLayout(r, u), wildLayout(r, u)
		if r.IntN(4) == 0 && len(b.Long) > 0 {
			i := r.IntN(len(b.Long))
			b.Long[i] = append(b.Long[i], false)
		}
		is := layoutText(a) == layoutText(b)
		if place.Same(a, b) != is || place.Same(b, a) != is {
			t.Fatalf("Same of %s and %s", layoutText(a), layoutText(b))
		}
		if is {
			same++
		}
	}
	if same < 1000 {
		t.Errorf("only %d are the same", same)
	}
}
