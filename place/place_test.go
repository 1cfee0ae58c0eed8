package place_test

import (
	"fmt"
	"iter"
	"math"
	"slices"
	"strings"
	"testing"
	"time"

	"cooper/api"
	"cooper/frag"
	"cooper/place"
	"cooper/source"
)

func to(plus string) api.Oper { return api.Oper{Kind: api.OrTo, V: api.Value{Plus: plus}} }

func inst(name string, opers ...api.Oper) api.Piece {
	return api.Piece{Kind: api.PcInst, L: api.Line{Name: name, Opers: opers}}
}

func branch(name string, opers ...api.Oper) api.Piece {
	p := inst(name, opers...)
	p.Kind = api.PcBranch
	return p
}

func data(size int) api.Piece { return api.Piece{Kind: api.PcData, Size: size} }

func align(power int) api.Piece { return api.Piece{Kind: api.PcAlign, Align: power} }

func label(name string, part, piece int) api.Mark {
	return api.Mark{Name: name, Part: part, Piece: piece}
}

func equ(name string, add int64, plus, minus string) api.Mark {
	return api.Mark{Name: name, Equ: true, V: api.Value{Add: add, Plus: plus, Minus: minus}}
}

func part(l ...api.Piece) api.Part { return api.Part{Pieces: l} }

// unit is what the texts of files come to, with which nothing is wrong.
func unit(t *testing.T, texts ...string) api.Unit {
	t.Helper()
	var l []api.Unit
	for file, s := range texts {
		rows, faults, e := source.Parse(file, s)
		u, more := frag.One(file, rows)
		if e != api.OK || len(faults)+len(more) > 0 {
			t.Fatalf("%q: %v, %v, %d", s, faults, more, e)
		}
		l = append(l, u)
	}
	return frag.Join(l...)
}

// P17.1: where pieces stand: of each part one list more than it has pieces, and one that is as long.
func TestLay(t *testing.T) {
	for _, c := range []struct {
		texts []string
		want  api.Layout
	}{
		{nil, api.Layout{}},
		{[]string{".global a"}, api.Layout{}},
		{[]string{".text"}, api.Layout{At: [][]int64{{0}}, Long: [][]bool{{}}}},
		{[]string{"a: nop\nret"}, api.Layout{At: [][]int64{{0, 4, 8}}, Long: [][]bool{{false, false}}}},
		{[]string{".byte 1, 2\n.align 3\n.word 1\n.quad 2\n.ascii \"abc\"\n.align 0\n.align 1\nnop"}, api.Layout{At: [][]int64{{0, 1, 2, 8, 12, 20, 23, 23, 24, 28}}, Long: [][]bool{make([]bool, 9)}}},
		{[]string{"nop\n.data\n.byte 1\n.section x\n.data\n.byte 2\n.text\nnop"}, api.Layout{At: [][]int64{{0, 4, 8}, {0, 1, 2}, {0}}, Long: [][]bool{{false, false}, {false, false}, {}}}},
		{[]string{"cbz x0, a\nb: nop\n.data\na:", ".byte 1\n.text\na: cbz x0, b\n.align 4"}, api.Layout{At: [][]int64{{0, 4, 8, 9, 13, 16}, {0}}, Long: [][]bool{make([]bool, 5), {}}}},
	} {
		l := laid(t, unit(t, c.texts...))
		if layoutText(l) != layoutText(c.want) {
			t.Errorf("Lay of %q: %s, not %s", c.texts, layoutText(l), layoutText(c.want))
		}
	}
}

// P17.1, P17.7: which branches are long: at the limits of their reach, on and back, with more; by each other; to labels of their own part alone.
func TestLayLong(t *testing.T) {
	more := func(add int64) api.Oper { return api.Oper{Kind: api.OrTo, V: api.Value{Plus: "a", Add: add}} }
	for _, c := range []struct {
		name  string
		l     []api.Piece
		marks []api.Mark
		want  []bool
	}{
		{"on", []api.Piece{branch("tbz", to("a")), data(32760)}, []api.Mark{label("a", 0, 2)}, []bool{false, false}},
		{"on, too far", []api.Piece{branch("tbz", to("a")), data(32761)}, []api.Mark{label("a", 0, 2)}, []bool{true, false}},
		{"on, nearer", []api.Piece{branch("tbnz", more(-1)), data(32761)}, []api.Mark{label("a", 0, 2)}, []bool{false, false}},
		{"on, farther", []api.Piece{branch("tbnz", more(1)), data(32760)}, []api.Mark{label("a", 0, 2)}, []bool{true, false}},
		{"back", []api.Piece{data(32768), branch("tbz", to("a"))}, []api.Mark{label("a", 0, 0)}, []bool{false, false}},
		{"back, too far", []api.Piece{data(32769), branch("tbz", to("a"))}, []api.Mark{label("a", 0, 0)}, []bool{false, true}},
		{"one by one", []api.Piece{branch("tbz", to("a")), branch("tbz", to("b")), data(32757), data(8)}, []api.Mark{label("a", 0, 3), label("b", 0, 4)}, []bool{true, true, false, false}},
		{"far on", []api.Piece{branch("cbz", to("a")), data(1<<20 - 8)}, []api.Mark{label("a", 0, 2)}, []bool{false, false}},
		{"far on, too far", []api.Piece{branch("b.eq", more(8)), data(1<<20 - 9), data(1)}, []api.Mark{label("a", 0, 2)}, []bool{true, false, false}},
		{"a b", []api.Piece{inst("b", to("a")), data(1 << 19)}, []api.Mark{label("a", 0, 2)}, []bool{false, false}},
		{"an instruction by its kind", []api.Piece{inst("tbz", to("a")), data(1 << 19)}, []api.Mark{label("a", 0, 2)}, []bool{false, false}},
		{"to no label", []api.Piece{branch("tbz", to("a")), data(1 << 19)}, nil, []bool{false, false}},
		{"to an .equ", []api.Piece{branch("tbz", to("a")), data(1 << 19)}, []api.Mark{equ("a", 1<<19, ".", "")}, []bool{false, false}},
		{"to another part", []api.Piece{branch("tbz", to("a")), data(1 << 19)}, []api.Mark{label("a", 1, 0), label("a", 0, 2)}, []bool{false, false}},
		{"to a part that there is not", []api.Piece{branch("tbz", to("a")), data(1 << 19)}, []api.Mark{label("a", -1, 2), label("a", 0, 2)}, []bool{false, false}},
		{"to the first one", []api.Piece{branch("tbz", to("a")), data(1 << 19)}, []api.Mark{label("a", 0, 2), label("a", 0, 0)}, []bool{true, false}},
		{"to the first one, that is near", []api.Piece{branch("tbz", to("a")), data(1 << 19)}, []api.Mark{label("a", 0, 1), label("a", 0, 2)}, []bool{false, false}},
	} {
		u := api.Unit{Parts: []api.Part{part(c.l...), part(data(1))}, Marks: c.marks}
		if l := laid(t, u); !slices.Equal(l.Long[0], c.want) {
			t.Errorf("Lay, %s: %t, not %t", c.name, l.Long[0], c.want)
		}
		// The same in the second part.
		slices.Reverse(u.Parts)
		for i := range u.Marks {
			if m := &u.Marks[i]; m.Part >= 0 {
				m.Part = 1 - m.Part
			}
		}
		if l := laid(t, u); !slices.Equal(l.Long[1], c.want) {
			t.Errorf("Lay, %s, second: %t, not %t", c.name, l.Long[1], c.want)
		}
	}
}

// P17.1: what is wrong with parts, with their files and lines, in their order; nothing is wrong with the others.
func TestLayFaults(t *testing.T) {
	leads := func(add int64) api.Piece {
		return branch("cbz", api.Oper{Kind: api.OrTo, V: api.Value{Plus: "far", Add: add}})
	}
	var all api.Unit
	var wrong []api.Fault
	for i, c := range []struct {
		l    []api.Piece
		want api.Errno
	}{
		{nil, api.OK},
		{[]api.Piece{data(1 << 20)}, api.OK},
		{[]api.Piece{data(1<<20 + 1)}, api.ErrSize},
		{[]api.Piece{data(1<<20 - 1), align(12)}, api.OK},
		{[]api.Piece{data(1 << 20), align(12), inst("nop")}, api.ErrSize},
		{[]api.Piece{inst("nop")}, api.OK},
		{[]api.Piece{data(1<<20 + 1), data(-1)}, api.ErrItem},
		{[]api.Piece{data(-1)}, api.ErrItem},
		{[]api.Piece{data(1 << 26), data(1)}, api.ErrSize},
		{[]api.Piece{data(math.MaxInt)}, api.ErrItem},
		{[]api.Piece{align(13)}, api.ErrItem},
		{[]api.Piece{align(-1)}, api.ErrItem},
		{slices.Repeat([]api.Piece{data(1)}, 1<<16), api.OK},
		{slices.Repeat([]api.Piece{data(1)}, 1<<16+1), api.ErrLong},
		{slices.Repeat([]api.Piece{data(-1)}, 1<<16+1), api.ErrLong},
		{[]api.Piece{{Kind: 6, Size: -1, Align: 99}, {Kind: -1}, {Kind: 0}}, api.OK},
		{[]api.Piece{leads(0), data(1)}, api.OK},
		{[]api.Piece{leads(1 << 30), data(1)}, api.OK},
		{[]api.Piece{leads(1<<30 + 1), data(1)}, api.ErrItem},
		{[]api.Piece{leads(math.MinInt64), data(1)}, api.ErrItem},
		{[]api.Piece{leads(0)}, api.ErrItem},
	} {
		p := api.Part{Name: fmt.Sprint(i), File: 100 - i, Line: i % 3, Pieces: c.l}
		fault := api.Fault{File: p.File, Line: p.Line, Err: c.want}
		l, faults := place.Lay(api.Unit{Parts: []api.Part{p}, Marks: []api.Mark{label("far", 0, 2)}})
		if c.want == api.OK && (len(faults) != 0 || len(l.At[0]) != len(c.l)+1) || c.want != api.OK && (!slices.Equal(faults, []api.Fault{fault}) || len(l.At[0])+len(l.Long[0]) != 0) {
			t.Errorf("Lay of number %d: %v, not %d", i, faults, c.want)
		}
		// All together: whose label it is hangs on the first mark, so each part has its own.
		for j := range p.Pieces {
			if opers := p.Pieces[j].L.Opers; len(opers) > 0 {
				opers[0].V.Plus = fmt.Sprint("far", i)
			}
		}
		all.Parts = append(all.Parts, p)
		all.Marks = append(all.Marks, label(fmt.Sprint("far", i), i, 2))
		if c.want != api.OK {
			wrong = append(wrong, fault)
		}
	}
	l, faults := place.Lay(all)
	if !slices.Equal(faults, wrong) || len(l.At) != len(all.Parts) || len(l.Long) != len(all.Parts) {
		t.Errorf("Lay: %v, not %v", faults, wrong)
	}
	if want, _ := ruledLay(all); !place.Same(l, want) {
		t.Error("Lay of all together")
	}
	for i, p := range all.Parts {
		bad := slices.ContainsFunc(wrong, func(f api.Fault) bool { return f.File == p.File })
		if bad != (len(l.At[i]) == 0) || !bad && len(l.Long[i]) != len(p.Pieces) {
			t.Errorf("Lay of part %d: %d places", i, len(l.At[i]))
		}
	}
}

// P17.2: what values come to: numbers and places, alone and together.
func TestEval(t *testing.T) {
	syms := []api.Symbol{
		{Name: "a", Section: 0, Value: 10}, {Name: "b", Section: 0, Value: 4, Global: true}, {Name: "c", Section: 3, Value: 7}, {Name: "n", Section: api.AbsSection, Value: 100}, {Name: "m", Section: api.AbsSection, Value: -1},
		{Name: "low", Section: -3, Value: 5}, {Name: "least", Section: math.MinInt, Value: 6}, {Name: "ext", Section: api.NoSection, Value: 0, Global: true}, {Name: "ext2", Section: api.NoSection, Value: 9},
		{Name: "a", Section: api.NoSection}, {Name: "n", Section: 0, Value: 1}, {Name: "ext", Section: 0}, {Name: "", Section: 0, Value: 77}, {Name: ".", Section: 0, Value: 78}, {Name: "most", Section: math.MaxInt, Value: math.MaxInt64},
	}
	in := func(section int, v int64) api.Symbol { return api.Symbol{Section: section, Value: v} }
	number := func(v int64) api.Symbol { return in(api.AbsSection, v) }
	none := api.Symbol{}
	for _, c := range []struct {
		add         int64
		plus, minus string
		want        api.Symbol
		e           api.Errno
	}{
		{0, "", "", number(0), api.OK}, {-5, "", "", number(-5), api.OK}, {math.MinInt64, "", "", number(math.MinInt64), api.OK},
		{0, "a", "", in(0, 10), api.OK}, {3, "b", "", in(0, 7), api.OK}, {-20, "c", "", in(3, -13), api.OK}, {1, "most", "", in(math.MaxInt, math.MinInt64), api.OK},
		{0, "n", "", number(100), api.OK}, {1, "m", "", number(0), api.OK}, {0, "low", "", number(5), api.OK}, {1, "least", "", number(7), api.OK},
		{1, "", "n", number(-99), api.OK}, {0, "", "m", number(1), api.OK}, {0, "", "low", number(-5), api.OK}, {math.MinInt64, "", "n", number(math.MaxInt64 - 99), api.OK},
		{0, "n", "m", number(101), api.OK}, {2, "m", "n", number(-99), api.OK}, {2, "n", "n", number(2), api.OK}, {0, "low", "least", number(-1), api.OK},
		{0, "a", "b", number(6), api.OK}, {5, "b", "a", number(-1), api.OK}, {5, "a", "a", number(5), api.OK}, {0, "c", "c", number(0), api.OK},
		{1, "a", "n", in(0, -89), api.OK}, {0, "c", "m", in(3, 8), api.OK}, {0, "a", "low", in(0, 5), api.OK},
		{0, "", "a", none, api.ErrEqu}, {0, "n", "a", none, api.ErrEqu}, {0, "low", "c", none, api.ErrEqu}, {0, "a", "c", none, api.ErrEqu}, {0, "c", "a", none, api.ErrEqu}, {0, "most", "a", none, api.ErrEqu},
		{0, "ext", "", none, api.ErrEqu}, {0, "", "ext", none, api.ErrEqu}, {0, "ext", "ext", none, api.ErrEqu}, {0, "ext", "ext2", none, api.ErrEqu}, {0, "n", "ext2", none, api.ErrEqu}, {0, "ext", "n", none, api.ErrEqu}, {0, "a", "ext", none, api.ErrEqu}, {0, "ext", "a", none, api.ErrEqu},
		{0, "x", "", none, api.ErrNone}, {0, "", "x", none, api.ErrNone}, {0, "x", "x", none, api.ErrNone}, {0, "a", "x", none, api.ErrNone}, {0, "x", "a", none, api.ErrNone}, {0, "ext", "x", none, api.ErrNone}, {0, "x", "ext", none, api.ErrNone}, {0, "A", "", none, api.ErrNone}, {0, " ", "", none, api.ErrNone},
		// . is the place 40 of part 3.
		{0, ".", "", in(3, 40), api.OK}, {2, ".", "n", in(3, -58), api.OK}, {2, ".", "c", number(35), api.OK}, {2, "c", ".", number(-31), api.OK}, {2, ".", ".", number(2), api.OK},
		{0, "", ".", none, api.ErrEqu}, {0, "n", ".", none, api.ErrEqu}, {0, ".", "a", none, api.ErrEqu}, {0, "a", ".", none, api.ErrEqu}, {0, ".", "ext", none, api.ErrEqu}, {0, ".", "x", none, api.ErrNone}, {0, "ext", ".", none, api.ErrEqu},
	} {
		v := api.Value{Add: c.add, Plus: c.plus, Minus: c.minus}
		if s, e := valued(t, v, 3, 40, syms...); s != c.want || e != c.e {
			t.Errorf("Eval of %+v: %v, %d, not %v, %d", v, s, e, c.want, c.e)
		}
	}
	// Sums wrap.
	far := []api.Symbol{{Name: "p", Section: 1, Value: math.MaxInt64}, {Name: "q", Section: 1, Value: math.MinInt64}, {Name: "r", Section: -2, Value: math.MinInt64}}
	for v, want := range map[api.Value]api.Symbol{
		{Plus: "p", Minus: "q"}: number(-1), {Plus: "q", Minus: "p", Add: -1}: number(0), {Plus: "p", Minus: "r"}: in(1, -1), {Minus: "r"}: number(math.MinInt64), {Plus: "r", Add: -1}: number(math.MaxInt64), {Plus: "p", Add: math.MaxInt64}: in(1, -2),
	} {
		if s, e := valued(t, v, 0, 0, far...); s != want || e != api.OK {
			t.Errorf("Eval of %+v: %v, %d, not %v", v, s, e, want)
		}
	}
}

// P17.2: the place where a value stands may be of any part.
func TestEvalHere(t *testing.T) {
	in := func(section int) []api.Symbol { return []api.Symbol{{Name: "s", Section: section, Value: 30}} }
	for _, part := range []int{0, 1, 63, 64, math.MaxInt} {
		for _, off := range []int64{0, 7, -7, math.MaxInt64, math.MinInt64} {
			if s, e := valued(t, api.Value{Plus: ".", Add: 1}, part, off); s != (api.Symbol{Section: part, Value: off + 1}) || e != api.OK {
				t.Errorf("Eval of .+1 at %d of %d: %v, %d", off, part, s, e)
			}
			if s, e := valued(t, api.Value{Plus: ".", Minus: "s"}, part, off, in(part)...); s != (api.Symbol{Section: api.AbsSection, Value: off - 30}) || e != api.OK {
				t.Errorf("Eval of .-s at %d of %d: %v, %d", off, part, s, e)
			}
			if s, e := valued(t, api.Value{Plus: ".", Minus: "s"}, part, off, in(part-1)...); e == api.OK && s.Section != part || e != api.OK && s != (api.Symbol{}) {
				t.Errorf("Eval of .-s at %d of %d: %v, %d", off, part, s, e)
			}
		}
	}
	for part, want := range map[int]api.Errno{api.NoSection: api.ErrEqu, api.AbsSection: api.OK, -3: api.OK, math.MinInt: api.OK} {
		for _, v := range []api.Value{{Plus: "."}, {Minus: "."}, {Plus: ".", Minus: "."}, {Plus: "s", Minus: "."}} {
			if _, e := valued(t, v, part, 9, in(2)...); e != want {
				t.Errorf("Eval of %+v in %d: %d", v, part, e)
			}
		}
	}
	if _, e := valued(t, api.Value{Plus: "ext", Minus: "."}, 1, 1, api.Symbol{Name: "ext", Section: api.NoSection}); e != api.ErrEqu {
		t.Errorf("Eval of ext-.: %d", e)
	}
}

// P17.3: labels, names that are known outside, and their order.
func TestSymbols(t *testing.T) {
	u := unit(t, "b: nop\na: cbz x0, a\n.align 3\n.global c, x, b, x, y\n.data\nc: d: .byte 1\ne:", ".global a, y\n.text\nB: ret\nZ:")
	l := laid(t, u)
	want := []api.Symbol{
		{Name: "B", Value: 8}, {Name: "Z", Value: 12}, {Name: "d", Section: 1}, {Name: "e", Section: 1, Value: 1},
		{Name: "a", Value: 4, Global: true}, {Name: "b", Global: true}, {Name: "c", Section: 1, Global: true}, {Name: "x", Section: api.NoSection, Global: true}, {Name: "y", Section: api.NoSection, Global: true},
	}
	if got := asked(t, u, l); !slices.Equal(got, want) {
		t.Errorf("Symbols: %v, not %v", got, want)
	}
	if got := asked(t, api.Unit{}, api.Layout{}); len(got) != 0 {
		t.Errorf("Symbols of none: %v", got)
	}
	if got := asked(t, api.Unit{}, l); len(got) != 0 {
		t.Errorf("Symbols of none: %v", got)
	}
}

// P17.3: labels of parts and pieces that there are not, in layouts that need not be the unit's.
func TestSymbolsNowhere(t *testing.T) {
	parts := []api.Part{part(inst("nop"), inst("nop")), part(), part(data(3))}
	l := api.Layout{At: [][]int64{{5, 9, 13}, nil}}
	more := api.Layout{At: [][]int64{{-5, 9, 13, 17}, {1}, {0, 3}, {8, 8, 8}}}
	for _, c := range []struct {
		part, piece int
		want        api.Symbol
		more        int64
	}{
		{0, 0, api.Symbol{Section: 0, Value: 5}, -5}, {0, 1, api.Symbol{Section: 0, Value: 9}, 9}, {0, 2, api.Symbol{Section: 0, Value: 13}, 13}, {0, 3, api.Symbol{Section: 0}, 17}, {0, 4, api.Symbol{Section: 0}, 0},
		{0, -1, api.Symbol{Section: 0}, 0}, {0, math.MaxInt, api.Symbol{Section: 0}, 0}, {0, math.MinInt, api.Symbol{Section: 0}, 0},
		{1, 0, api.Symbol{Section: 1}, 1}, {1, 1, api.Symbol{Section: 1}, 0}, {2, 0, api.Symbol{Section: 2}, 0}, {2, 1, api.Symbol{Section: 2}, 3},
		{3, 0, api.Symbol{Section: api.AbsSection}, 0}, {3, 1, api.Symbol{Section: api.AbsSection}, 0}, {-1, 0, api.Symbol{Section: api.AbsSection}, 0}, {-2, 1, api.Symbol{Section: api.AbsSection}, 0},
		{math.MaxInt, 0, api.Symbol{Section: api.AbsSection}, 0}, {math.MinInt, 1, api.Symbol{Section: api.AbsSection}, 0},
	} {
		u := api.Unit{Parts: parts, Marks: []api.Mark{label("a", c.part, c.piece)}}
		c.want.Name = "a"
		if got := asked(t, u, l); !slices.Equal(got, []api.Symbol{c.want}) {
			t.Errorf("Symbols of %d, %d: %v, not %v", c.part, c.piece, got, c.want)
		}
		c.want.Value = c.more
		if got := asked(t, u, more); !slices.Equal(got, []api.Symbol{c.want}) {
			t.Errorf("Symbols of %d, %d, more: %v, not %v", c.part, c.piece, got, c.want)
		}
		asked(t, u, api.Layout{})
	}
}

// P17.3: .equs: numbers and places, told by names ahead of them and behind them.
func TestEqus(t *testing.T) {
	u := unit(t, ".equ last, third + 1\n.equ third, second - first\na: nop\nnop\nb: .equ first, a + 4\n.equ second, b\n.data\n.word 1\n.equ here, .\n.equ back, . - 4\n.equ end, v + 8\nv: .word 2\n.word 3\n.equ five, 5\n.equ size, end - back\n.global here, five")
	want := []api.Symbol{
		{Name: "a"}, {Name: "b", Value: 8}, {Name: "back", Section: 1}, {Name: "end", Section: 1, Value: 12}, {Name: "first", Value: 4}, {Name: "last", Section: api.AbsSection, Value: 5},
		{Name: "second", Value: 8}, {Name: "size", Section: api.AbsSection, Value: 12}, {Name: "third", Section: api.AbsSection, Value: 4}, {Name: "v", Section: 1, Value: 4},
		{Name: "five", Section: api.AbsSection, Value: 5, Global: true}, {Name: "here", Section: 1, Value: 4, Global: true},
	}
	if got := asked(t, u, laid(t, u)); !slices.Equal(got, want) {
		t.Errorf("Symbols: %v, not %v", got, want)
	}
	// The document's example.
	u = api.Unit{Parts: []api.Part{part(data(8), data(4))}, Marks: []api.Mark{label("a", 0, 1), equ("n", 4, "a", ""), equ("x", 0, "y", ""), equ("y", 0, "x", "")}}
	syms, faults := place.Symbols(u, laid(t, u))
	if !slices.Equal(syms, []api.Symbol{{Name: "a", Value: 8}, {Name: "n", Value: 12}}) || !slices.Equal(faults, []api.Fault{{Err: api.ErrCycle}, {Err: api.ErrCycle}}) {
		t.Errorf("Symbols of the document's: %v, %v", syms, faults)
	}
}

// P17.3: what is wrong with an .equ: the marks' order, and which error counts first.
func TestEquFaults(t *testing.T) {
	base := []api.Mark{
		label("a", 0, 0), label("b", 0, 1), label("c", 1, 0), label("lost", -1, 0),
		equ("num", 3, "", ""), equ("none", 0, "nothing", ""), equ("range", 9, "a", ""), equ("equ", 0, "a", "c"), equ("cycle", 0, "cycle", ""), equ("ring", 0, "", "gnir"), equ("gnir", 0, "num", "ring"),
	}
	for _, c := range []struct {
		add         int64
		plus, minus string
		want        api.Errno
	}{
		{0, "", "", api.OK}, {8, "a", "", api.OK}, {9, "a", "", api.ErrRange}, {-1, "a", "", api.ErrRange}, {0, "a", "", api.OK}, {math.MinInt64, "b", "", api.ErrRange}, {math.MaxInt64, "a", "", api.ErrRange}, {math.MaxInt64, "b", "", api.ErrRange},
		{2, "c", "", api.OK}, {3, "c", "", api.ErrRange}, {-9, "num", "", api.OK}, {math.MaxInt64, "", "", api.OK}, {99, "b", "a", api.OK}, {99, "lost", "", api.OK}, {8, "a", "lost", api.OK}, {9, "a", "lost", api.ErrRange}, {3, "a", "num", api.OK}, {2, "a", "num", api.ErrRange},
		{8, ".", "", api.OK}, {9, ".", "", api.ErrRange}, {-1, ".", "", api.ErrRange}, {0, ".", "b", api.OK}, {0, ".", "c", api.ErrEqu}, {0, "", ".", api.ErrEqu},
		{0, "nothing", "", api.ErrNone}, {0, "", "nothing", api.ErrNone}, {0, "ext", "", api.ErrEqu}, {0, "a", "ext", api.ErrEqu}, {0, "", "a", api.ErrEqu}, {0, "num", "b", api.ErrEqu}, {0, "ext", "nothing", api.ErrNone}, {0, "nothing", "ext", api.ErrNone},
		// What is needed has an error: Plus's comes first, ahead of what Minus has.
		{0, "none", "", api.ErrNone}, {0, "range", "", api.ErrRange}, {0, "equ", "", api.ErrEqu}, {0, "", "none", api.ErrNone}, {0, "", "range", api.ErrRange}, {0, "", "equ", api.ErrEqu},
		{0, "none", "range", api.ErrNone}, {0, "range", "none", api.ErrRange}, {0, "equ", "range", api.ErrEqu}, {0, "range", "equ", api.ErrRange}, {0, "range", "range", api.ErrRange}, {0, "equ", "none", api.ErrEqu},
		{0, "nothing", "range", api.ErrNone}, {0, "range", "nothing", api.ErrRange}, {0, "equ", "nothing", api.ErrEqu}, {0, "nothing", "equ", api.ErrNone}, {0, "ext", "range", api.ErrRange}, {0, "range", "ext", api.ErrRange}, {0, "ext", "none", api.ErrNone}, {0, "a", "range", api.ErrRange}, {0, ".", "range", api.ErrRange}, {0, "num", "range", api.ErrRange},
		// What needs itself counts ahead of all.
		{0, "x", "", api.ErrCycle}, {0, "", "x", api.ErrCycle}, {0, "x", "x", api.ErrCycle}, {0, "cycle", "", api.ErrCycle}, {0, "", "cycle", api.ErrCycle}, {0, "ring", "", api.ErrCycle}, {0, "gnir", "ring", api.ErrCycle},
		{0, "nothing", "x", api.ErrCycle}, {0, "nothing", "cycle", api.ErrCycle}, {0, "cycle", "nothing", api.ErrCycle}, {0, "range", "cycle", api.ErrCycle}, {0, "cycle", "range", api.ErrCycle}, {0, "ext", "ring", api.ErrCycle}, {0, "none", "gnir", api.ErrCycle}, {0, "a", "cycle", api.ErrCycle}, {0, ".", "x", api.ErrCycle},
	} {
		x := equ("x", c.add, c.plus, c.minus)
		x.File, x.Line = 7, 70
		for at := range len(base) + 1 {
			u := api.Unit{
				Parts:   []api.Part{part(inst("nop"), inst("nop")), part(data(2))},
				Marks:   slices.Insert(slices.Clone(base), at, x),
				Globals: []api.Told{{Name: "ext"}, {Name: "x"}, {Name: "range"}},
			}
			l := laid(t, u)
			asked(t, u, l)
			_, faults := place.Symbols(u, l)
			i := slices.IndexFunc(faults, func(f api.Fault) bool { return f.File == 7 })
			if c.want == api.OK && i >= 0 || c.want != api.OK && (i < 0 || faults[i] != api.Fault{File: 7, Line: 70, Err: c.want}) {
				t.Errorf("Symbols with %+v: %v, not %d", x.V, faults, c.want)
			}
		}
	}
}

// P17.3: what needs itself, by however many names, and what leads there; what only stands beside it is well.
func TestCycles(t *testing.T) {
	for _, c := range []struct {
		text string
		want string // the names that need themselves, and those that lead there
	}{
		{".equ x, x", "x"},
		{".equ x, 5 - x", "x"},
		{".equ x, y\n.equ y, x", "xy"},
		{".equ x, y\n.equ y, z\n.equ z, x\n.equ w, z", "xyzw"},
		{".equ v, w\n.equ w, x\n.equ x, x\n.equ n, 5", "vwx"},
		{".equ n, 5\n.equ v, n\n.equ w, n + 2\n.equ x, v - w\n.equ y, x\n.equ z, y - x", ""},
		{".equ x, y - z\n.equ y, z\n.equ z, 1", ""},
		{".equ x, y - z\n.equ y, z\n.equ z, x", "xyz"},
		{".equ x, y - z\n.equ z, n - y\n.equ y, z\n.equ n, 5", "xyz"},
		{".equ x, y - w\n.equ y, n\n.equ n, 5\n.equ w, v - x\n.equ v, n", "xw"},
		{".equ x, a - z\n.equ y, a - x\n.equ z, b - y\na: b:", "xyz"},
		{".equ x, . - y\n.equ y, . - a\na:", ""},
		{".equ x, lost - y\n.equ y, lost - x\n.equ z, lost", "xy"},
	} {
		u := unit(t, c.text)
		syms := asked(t, u, laid(t, u))
		_, faults := place.Symbols(u, laid(t, u))
		for _, m := range u.Marks {
			at := slices.IndexFunc(faults, func(f api.Fault) bool { return f.Line == m.Line && f.Err == api.ErrCycle })
			is := slices.ContainsFunc(syms, func(s api.Symbol) bool { return s.Name == m.Name })
			if want := strings.Contains(c.want, m.Name); m.Equ && (want != (at >= 0) || want && is) {
				t.Errorf("Symbols of %q: %v, %v", c.text, syms, faults)
			}
		}
	}
}

// P17.3: the first mark of a name counts; what is . or has no name is told, and needed by none.
func TestSymbolsTwice(t *testing.T) {
	at := func(m api.Mark, line int) api.Mark { m.Line = line; return m }
	u := api.Unit{
		Parts: []api.Part{part(inst("nop"), inst("nop"))},
		Marks: []api.Mark{
			label("a", 0, 1), at(label("a", 0, 0), 1), at(equ("a", 0, "nothing", ""), 2),
			at(equ("x", 0, "a", ""), 3), at(label("x", 0, 0), 4), at(equ("x", 0, "x", ""), 5),
			at(equ("bad", 0, "nothing", ""), 6), at(equ("bad", 0, "a", ""), 7), at(equ("worse", 0, "bad", ""), 8),
			at(equ("dot", 1, ".", ""), 9), at(label(".", 0, 1), 10), at(label("", 0, 1), 11), at(equ("no", 2, "", ""), 12),
		},
		Globals: []api.Told{{Name: "a", Line: 13}, {Name: "bad"}, {Name: "."}, {Name: "e"}, {Name: "e"}},
	}
	l := laid(t, u)
	want := []api.Symbol{
		{Name: "", Value: 4}, {Name: "dot", Value: 1}, {Name: "no", Section: api.AbsSection, Value: 2}, {Name: "x", Value: 4},
		{Name: ".", Value: 4, Global: true}, {Name: "a", Value: 4, Global: true}, {Name: "e", Section: api.NoSection, Global: true},
	}
	if got := asked(t, u, l); !slices.Equal(got, want) {
		t.Errorf("Symbols: %v, not %v", got, want)
	}
	if _, faults := place.Symbols(u, l); !slices.Equal(faults, []api.Fault{{Line: 6, Err: api.ErrNone}, {Line: 8, Err: api.ErrNone}}) {
		t.Errorf("Symbols: %v", faults)
	}
	// .equs that are . or have no name themselves, and need what they are called.
	asked(t, api.Unit{Parts: u.Parts, Marks: []api.Mark{equ(".", 1, ".", ""), equ("", 2, "", ""), equ("x", 3, "", "."), equ("y", 4, ".", "")}}, l)
}

// P17.3: an .equ stands in its own part, at its own piece, also if there is no such one; what it comes to is held against the end of the section where it is.
func TestEquPlaces(t *testing.T) {
	parts := []api.Part{part(inst("nop"), inst("nop")), part(data(1), data(2)), part()}
	l, _ := place.Lay(api.Unit{Parts: parts})
	for _, c := range []struct {
		part, piece int
		add         int64
		want        api.Symbol
		e           api.Errno
	}{
		{0, 1, 1, api.Symbol{Section: 0, Value: 5}, api.OK}, {0, 1, 4, api.Symbol{Section: 0, Value: 8}, api.OK}, {0, 1, 5, api.Symbol{}, api.ErrRange}, {0, 2, -8, api.Symbol{Section: 0}, api.OK}, {0, 2, -9, api.Symbol{}, api.ErrRange},
		{0, 3, 8, api.Symbol{Section: 0, Value: 8}, api.OK}, {0, -1, 9, api.Symbol{}, api.ErrRange},
		{1, 1, 2, api.Symbol{Section: 1, Value: 3}, api.OK}, {1, 1, 3, api.Symbol{}, api.ErrRange}, {2, 0, 0, api.Symbol{Section: 2}, api.OK}, {2, 0, 1, api.Symbol{}, api.ErrRange},
		{3, 0, 0, api.Symbol{Section: 3}, api.OK}, {3, 0, 1, api.Symbol{}, api.ErrRange}, {math.MaxInt, 0, 0, api.Symbol{Section: math.MaxInt}, api.OK}, {math.MaxInt, 0, -1, api.Symbol{}, api.ErrRange},
		{-1, 0, 0, api.Symbol{}, api.ErrEqu}, {-2, 0, 9, api.Symbol{Section: api.AbsSection, Value: 9}, api.OK}, {-9, 1, -9, api.Symbol{Section: api.AbsSection, Value: -9}, api.OK}, {math.MinInt, 1, 1, api.Symbol{Section: api.AbsSection, Value: 1}, api.OK},
	} {
		m := equ("x", c.add, ".", "")
		m.Part, m.Piece, m.Line = c.part, c.piece, 5
		u := api.Unit{Parts: parts, Marks: []api.Mark{m}}
		syms := asked(t, u, l)
		_, faults := place.Symbols(u, l)
		c.want.Name = "x"
		if c.e == api.OK && !slices.Equal(syms, []api.Symbol{c.want}) || c.e != api.OK && !slices.Equal(faults, []api.Fault{{Line: 5, Err: c.e}}) {
			t.Errorf("Symbols of .+%d in %d, %d: %v, %v, not %v, %d", c.add, c.part, c.piece, syms, faults, c.want, c.e)
		}
		asked(t, u, api.Layout{})
		asked(t, u, api.Layout{At: [][]int64{nil, {}, {3}, {1, 2}}})
	}
}

// P17.6: .equs in all orders.
func TestEquOrders(t *testing.T) {
	marks := []api.Mark{label("a", 0, 1), equ("n", 2, "m", "a"), equ("m", 1, "k", "j"), equ("k", 0, "a", ""), equ("j", 0, "", ""), equ("bad", 0, "worse", "m"), equ("worse", 0, "", "a")}
	for i := range marks {
		marks[i].Line = i
	}
	u := api.Unit{Parts: []api.Part{part(inst("nop"), inst("nop"))}, Marks: marks}
	l := laid(t, u)
	want, wrong := place.Symbols(u, l)
	if !slices.Equal(wrong, []api.Fault{{Line: 5, Err: api.ErrEqu}, {Line: 6, Err: api.ErrEqu}}) || len(want) != 5 || want[4] != (api.Symbol{Name: "n", Section: api.AbsSection, Value: 3}) {
		t.Fatalf("Symbols: %v, %v", want, wrong)
	}
	var all func(n int)
	all = func(n int) {
		if n == 0 {
			got, faults := place.Symbols(u, l)
			slices.SortFunc(faults, func(a, b api.Fault) int { return a.Line - b.Line })
			if !slices.Equal(got, want) || !slices.Equal(faults, wrong) {
				t.Fatalf("Symbols of %s: %v, %v, not %v, %v", text(u), got, faults, want, wrong)
			}
		}
		for i := range n {
			marks[i], marks[n-1] = marks[n-1], marks[i]
			all(n - 1)
			marks[i], marks[n-1] = marks[n-1], marks[i]
		}
	}
	all(len(marks))
}

// P17.4: which operands' values become numbers.
func TestBind(t *testing.T) {
	syms := []api.Symbol{{Name: "n", Section: api.AbsSection, Value: 10}, {Name: "a", Section: 0, Value: 4}, {Name: "b", Section: 0, Value: 12}, {Name: "c", Section: 1, Value: 1}, {Name: "ext", Section: api.NoSection}, {Name: "low", Section: -7, Value: 3}, {Name: "n", Section: 0}}
	for _, c := range []struct {
		v    api.Value
		want api.Value
	}{
		{api.Value{}, api.Value{}}, {api.Value{Add: 5}, api.Value{Add: 5}},
		{api.Value{Plus: "n"}, api.Value{Add: 10}}, {api.Value{Minus: "n", Add: 1}, api.Value{Add: -9}}, {api.Value{Plus: "b", Minus: "a"}, api.Value{Add: 8}}, {api.Value{Plus: "low", Add: -1, Minus: "n"}, api.Value{Add: -8}},
		{api.Value{Plus: ".", Minus: "a"}, api.Value{Add: 16}}, {api.Value{Plus: "b", Minus: ".", Add: 1}, api.Value{Add: -7}}, {api.Value{Plus: ".", Minus: "."}, api.Value{}}, {api.Value{Plus: "a", Minus: "a"}, api.Value{}},
		{api.Value{Plus: "a"}, api.Value{Plus: "a"}}, {api.Value{Plus: "a", Minus: "n", Add: 2}, api.Value{Plus: "a", Minus: "n", Add: 2}}, {api.Value{Plus: "."}, api.Value{Plus: "."}}, {api.Value{Plus: "a", Minus: "c"}, api.Value{Plus: "a", Minus: "c"}}, {api.Value{Minus: "a"}, api.Value{Minus: "a"}},
		{api.Value{Plus: "ext", Add: 3}, api.Value{Plus: "ext", Add: 3}}, {api.Value{Plus: "x"}, api.Value{Plus: "x"}}, {api.Value{Plus: "n", Minus: "x"}, api.Value{Plus: "n", Minus: "x"}}, {api.Value{Plus: "ext", Minus: "ext"}, api.Value{Plus: "ext", Minus: "ext"}},
	} {
		for kind := -1; kind < 12; kind++ {
			for _, lo := range []bool{false, true} {
				o := api.Oper{Kind: kind, R: api.Reg{N: 2, X: true}, M: api.Reg{N: 3}, Mod: 4, Amt: 5, N: 6, V: c.v, Lo: lo, Mode: 8}
				want := o
				if kind != api.OrTo && !lo {
					want.V = c.want
				}
				other := api.Oper{Kind: api.OrNum, V: api.Value{Plus: "low"}}
				b := bound(t, api.Line{Name: "any", Opers: []api.Oper{o, other, o}}, 0, 20, syms...)
				if b.Name != "any" || len(b.Opers) != 3 || b.Opers[0] != want || b.Opers[2] != want || b.Opers[1].V != (api.Value{Add: 3}) {
					t.Errorf("Bind of %+v: %+v", o, b)
				}
			}
		}
	}
	for _, l := range []api.Line{{}, {Name: "nop"}, {Name: "x", Opers: []api.Oper{}}} {
		if b := bound(t, l, 0, 0, syms...); b.Name != l.Name || len(b.Opers) != 0 {
			t.Errorf("Bind of %+v: %+v", l, b)
		}
	}
	// The place is of a part that may be a number, or none.
	dot := api.Line{Opers: []api.Oper{{Kind: api.OrNum, V: api.Value{Plus: "."}}}}
	for part, want := range map[int]api.Value{0: {Plus: "."}, 9: {Plus: "."}, -1: {Plus: "."}, -2: {Add: 20}, -3: {Add: 20}} {
		if b := bound(t, dot, part, 20); b.Opers[0].V != want {
			t.Errorf("Bind of . in %d: %+v", part, b)
		}
	}
}

// P17.4: instructions at no multiple of 4, part by part, as things were when it was asked for; stopped anywhere, and gone through again.
func TestOdd(t *testing.T) {
	u := unit(t, "nop\n.byte 1\nnop\na: cbz x0, a\n.align 2\nnop\n.ascii \"ab\"\nret\n.data\n.byte 1\n.word 1\n.quad 1\nnop", ".text\nret\n.align 2\n.data\ncbnz x0, a")
	l := laid(t, u)
	want := []api.Fault{{Line: 3, Err: api.ErrOdd}, {Line: 4, Err: api.ErrOdd}, {Line: 8, Err: api.ErrOdd}, {File: 1, Line: 2, Err: api.ErrOdd}, {Line: 13, Err: api.ErrOdd}, {File: 1, Line: 5, Err: api.ErrOdd}}
	asked(t, u, l)
	all := place.Odd(u, l)
	for i := range u.Parts {
		clear(l.At[i])
		clear(u.Parts[i].Pieces)
	}
	for stop := range len(want) + 2 {
		var got []api.Fault
		for f := range all {
			if len(got) == stop {
				break
			}
			got = append(got, f)
		}
		if !slices.Equal(got, want[:min(stop, len(want))]) {
			t.Errorf("Odd up to %d: %v, not %v", stop, got, want)
		}
	}
	next, stop := iter.Pull(all)
	defer stop()
	next()
	if got := slices.Collect(all); !slices.Equal(got, want) {
		t.Errorf("Odd, two at once: %v", got)
	}
	if f, is := next(); !is || f != want[1] {
		t.Errorf("Odd, two at once: %v", f)
	}
}

// P17.4: of which kinds, at which places; a piece without a place is not odd.
func TestOddPlaces(t *testing.T) {
	for kind := -1; kind < 8; kind++ {
		for at, odd := range map[int64]bool{0: false, 1: true, 2: true, 3: true, 4: false, 6: true, -4: false, -1: true, -2: true, math.MaxInt64: true, math.MinInt64: false, math.MinInt64 + 1: true} {
			u := api.Unit{Parts: []api.Part{part(), {Pieces: []api.Piece{{Kind: kind, File: 3, Line: 4}}}}}
			var want []api.Fault
			if odd && (kind == api.PcInst || kind == api.PcBranch) {
				want = []api.Fault{{File: 3, Line: 4, Err: api.ErrOdd}}
			}
			for _, l := range [][][]int64{{{1}, {at}}, {{1}, {at, 1, 1}, {1}}, {nil, {at, 0}}} {
				if got := slices.Collect(place.Odd(u, api.Layout{At: l})); !slices.Equal(got, want) {
					t.Errorf("Odd of kind %d at %d: %v, not %v", kind, at, got, want)
				}
			}
			for _, l := range [][][]int64{nil, {{at, at}}, {{at}, nil}, {{at}, {}, {at}}} {
				if got := slices.Collect(place.Odd(u, api.Layout{At: l})); len(got) != 0 {
					t.Errorf("Odd of kind %d in %d: %v", kind, l, got)
				}
			}
		}
	}
	for range place.Odd(api.Unit{}, api.Layout{At: [][]int64{{1, 1}}}) {
		t.Error("Odd of none")
	}
}

// P17.1: list by list.
func TestSame(t *testing.T) {
	whole := func() api.Layout {
		return api.Layout{At: [][]int64{{0, 4, 8}, {}, {0, 1}}, Long: [][]bool{{true, false}, {}, {false}}}
	}
	for i, change := range []func(l *api.Layout){
		func(l *api.Layout) { l.At[0][0]++ }, func(l *api.Layout) { l.At[0][2]++ }, func(l *api.Layout) { l.At[2][1]-- }, func(l *api.Layout) { l.At[1] = []int64{0} }, func(l *api.Layout) { l.At[2] = l.At[2][:1] }, func(l *api.Layout) { l.At = l.At[:2] }, func(l *api.Layout) { l.At = append(l.At, nil) }, func(l *api.Layout) { l.At = nil },
		func(l *api.Layout) { slices.Reverse(l.At) }, func(l *api.Layout) { slices.Reverse(l.Long) }, func(l *api.Layout) { l.Long[0][0] = false }, func(l *api.Layout) { l.Long[2][0] = true }, func(l *api.Layout) { l.Long[1] = []bool{false} }, func(l *api.Layout) { l.Long[2] = nil }, func(l *api.Layout) { l.Long = l.Long[:2] },
		func(l *api.Layout) { l.Long = append(l.Long, nil) }, func(l *api.Layout) { l.Long = nil },
	} {
		a, b := whole(), whole()
		if !place.Same(a, b) {
			t.Error("Same of one")
		}
		change(&b)
		if place.Same(a, b) || place.Same(b, a) {
			t.Errorf("Same, change %d: %s", i, layoutText(b))
		}
	}
	if !place.Same(api.Layout{}, api.Layout{At: [][]int64{}, Long: [][]bool{}}) || !place.Same(api.Layout{At: [][]int64{nil}, Long: [][]bool{{}}}, api.Layout{At: [][]int64{{}}, Long: [][]bool{nil}}) || place.Same(api.Layout{At: [][]int64{nil}}, api.Layout{}) || place.Same(api.Layout{Long: [][]bool{nil}}, api.Layout{}) {
		t.Error("Same of empty lists and of none")
	}
}

// What is answered stands in memory of its own, each list for itself.
func TestOwn(t *testing.T) {
	u := unit(t, "a: cbz x0, a\n.byte 1\n.equ n, a\n.equ bad, none\n.data\n.byte 2, 3")
	was := text(u)
	l, again := laid(t, u), laid(t, u)
	syms, faults := place.Symbols(u, l)
	more, _ := place.Symbols(u, l)
	for i := range l.At {
		for j := range l.At[i] {
			l.At[i][j] = -1
		}
		for j := range l.Long[i] {
			l.Long[i][j] = true
		}
		_ = append(l.At[i], -1)
		l.At[i], l.Long[i] = nil, nil
	}
	clear(syms)
	clear(faults)
	if want, _ := ruledLay(u); text(u) != was || layoutText(again) != layoutText(want) || more[0].Name != "a" {
		t.Errorf("%s, %s, %v", text(u), layoutText(again), more)
	}
	x := api.Line{Name: "x", Opers: []api.Oper{{Kind: api.OrNum, V: api.Value{Plus: "a"}}, {Kind: api.OrTo, V: api.Value{Plus: "a"}}}}
	b := place.Bind(x, 0, 0)
	b.Opers[0], b.Opers[1].N = api.Oper{}, 5
	if x.Opers[0].V.Plus != "a" || x.Opers[1].N != 0 {
		t.Errorf("Bind: %+v", x)
	}
}

// Much of it goes as fast as it is long (all of this a second or two, where it would be minutes if each went through all).
func TestMuch(t *testing.T) {
	began := time.Now()
	n := 1 << 16
	name := func(i int) string { return fmt.Sprint("n", i) }
	many := api.Unit{}
	for i := range n {
		many.Parts = append(many.Parts, part(branch("cbz", to(name(i))), data(i%8), branch("tbz", to(name(i+1)))))
		many.Marks = append(many.Marks, label(name(i), i, 1), equ("e"+name(i), 1, name(i), ""))
		many.Globals = append(many.Globals, api.Told{Name: name(i * 2)})
	}
	l, faults := place.Lay(many)
	if len(l.At) != n || len(faults) != 0 || !slices.Equal(l.At[n-1], []int64{0, 4, 11, 15}) {
		t.Errorf("Lay: %d parts, %d faults", len(l.At), len(faults))
	}
	syms, faults := place.Symbols(many, l)
	if len(syms) != 5*n/2 || len(faults) != 0 {
		t.Errorf("Symbols: %d, %d faults", len(syms), len(faults))
	}
	odd := 0
	for range place.Odd(many, l) {
		odd++
	}
	if odd != n/8*6 {
		t.Errorf("Odd: %d", odd)
	}
	var long api.Line
	for i := range n {
		long.Opers = append(long.Opers, api.Oper{Kind: api.OrNum, V: api.Value{Plus: name(i), Minus: name(i), Add: 3}}, api.Oper{Kind: api.OrNum, V: api.Value{Plus: "x" + name(i)}})
	}
	b := place.Bind(long, 0, 0, syms...)
	if b.Opers[2*n-2].V != (api.Value{Add: 3}) || b.Opers[2*n-1].V.Plus != "x"+name(n-1) {
		t.Errorf("Bind: %+v", b.Opers[2*n-2:])
	}
	chains(t, 1<<17)
	if took := time.Since(began); took > 30*time.Second {
		t.Errorf("it took %v", took)
	}
}

// chains are .equs that need each other in a long row, from the first one on and from the last one on, and in a ring.
func chains(t *testing.T, n int) {
	t.Helper()
	name := func(i int) string { return fmt.Sprint("n", i) }
	for _, last := range []api.Mark{equ(name(n), 5, "", ""), equ(name(n), 5, "lost", ""), equ(name(n), 5, name(0), ""), equ(name(n), 5, name(n/2), "")} {
		var u api.Unit
		for i := range n {
			u.Marks = append(u.Marks, equ(name(i), 1, name(i+1), "z"))
		}
		u.Marks = append(u.Marks, last, equ("z", 0, "", ""))
		for range 2 {
			syms, faults := place.Symbols(u, api.Layout{})
			wrong := api.OK
			if len(faults) > 0 {
				wrong = faults[0].Err
			}
			at := slices.IndexFunc(syms, func(s api.Symbol) bool { return s.Name == name(0) })
			switch last.V.Plus {
			case "":
				if len(faults) != 0 || syms[at].Value != int64(n)+5 {
					t.Errorf("a row: %d faults", len(faults))
				}
			case "lost":
				if len(faults) != n+1 || wrong != api.ErrNone {
					t.Errorf("a row that is lost: %d faults, %d", len(faults), wrong)
				}
			default:
				if len(faults) != n+1 || wrong != api.ErrCycle {
					t.Errorf("a ring: %d faults, %d", len(faults), wrong)
				}
			}
			slices.Reverse(u.Marks)
		}
	}
}
