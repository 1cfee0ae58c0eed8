package place_test

import (
	"fmt"
	"slices"
	"strings"
	"testing"

	"cooper/api"
	"cooper/frag"
	"cooper/place"
	"cooper/relax"
)

// The document's rules, written down a second time, in other ways: with its numbers, and each name followed anew from where it is told.

// ruledLay is what Lay says.
func ruledLay(u api.Unit) (api.Layout, []api.Fault) {
	l := api.Layout{At: make([][]int64, len(u.Parts)), Long: make([][]bool, len(u.Parts))}
	var faults []api.Fault
	for part, p := range u.Parts {
		items := frag.Items(u, part)
		long, _, e := relax.Relax(items...)
		at, _ := relax.Offsets(items, long)
		switch {
		case e != 0:
			faults = append(faults, api.Fault{File: p.File, Line: p.Line, Err: e})
		case at[len(p.Pieces)] >= 1048577:
			faults = append(faults, api.Fault{File: p.File, Line: p.Line, Err: 161})
		default:
			l.At[part], l.Long[part] = at, long
		}
	}
	return l, faults
}

// ruledTerm is a name's symbol.
func ruledTerm(name string, part int, off int64, syms []api.Symbol) (api.Symbol, bool) {
	if name == "." {
		return api.Symbol{Section: part, Value: off}, true
	}
	for _, s := range syms {
		if s.Name == name {
			return s, true
		}
	}
	return api.Symbol{}, false
}

// ruledEval is what Eval says: case by case, whether there is a Plus, and a Minus, and in which sections.
func ruledEval(v api.Value, part int, off int64, syms []api.Symbol) (api.Symbol, api.Errno) {
	plus, isPlus := ruledTerm(v.Plus, part, off, syms)
	minus, isMinus := ruledTerm(v.Minus, part, off, syms)
	if v.Plus != "" && !isPlus || v.Minus != "" && !isMinus {
		return api.Symbol{}, 4
	}
	isPlus, isMinus = v.Plus != "", v.Minus != ""
	if isPlus && plus.Section == -1 || isMinus && minus.Section == -1 {
		return api.Symbol{}, 171
	}
	plusIn, minusIn := isPlus && plus.Section > -1, isMinus && minus.Section > -1
	if minusIn {
		if !plusIn || plus.Section != minus.Section {
			return api.Symbol{}, 171
		}
		return api.Symbol{Section: -2, Value: v.Add - (minus.Value - plus.Value)}, 0
	}
	s := api.Symbol{Section: -2, Value: v.Add}
	if plusIn {
		s.Section = plus.Section
	}
	if isMinus {
		s.Value -= minus.Value
	}
	if isPlus {
		s.Value += plus.Value
	}
	return s, 0
}

// ruledMark is the first mark of a name.
func ruledMark(u api.Unit, name string) (api.Mark, bool) {
	for _, m := range u.Marks {
		if m.Name == name {
			return m, true
		}
	}
	return api.Mark{}, false
}

// ruledNeeds are the .equs to which a mark's names lead, theirs, and so on.
func ruledNeeds(u api.Unit, m api.Mark) []string {
	var all []string
	add := func(m api.Mark) {
		for _, name := range []string{m.V.Plus, m.V.Minus} {
			if x, is := ruledMark(u, name); is && x.Equ && name != "" && name != "." && !slices.Contains(all, name) {
				all = append(all, name)
			}
		}
	}
	add(m)
	for i := 0; i < len(all); i++ {
		x, _ := ruledMark(u, all[i])
		add(x)
	}
	return all
}

// ruledCycle tells whether a mark is an .equ that leads to itself, or to one that does.
func ruledCycle(u api.Unit, m api.Mark) bool {
	return m.Equ && slices.ContainsFunc(append(ruledNeeds(u, m), m.Name), func(name string) bool {
		x, _ := ruledMark(u, name)
		return slices.Contains(ruledNeeds(u, x), name)
	})
}

// ruledAt is a number of a list of lists, or 0.
func ruledAt(l [][]int64, i, j int) int64 {
	for a, x := range l {
		for b, at := range x {
			if a == i && b == j {
				return at
			}
		}
	}
	return 0
}

// ruledEnd is the last number of a list of lists, or 0.
func ruledEnd(l [][]int64, i int) int64 {
	end := int64(0)
	for a, x := range l {
		for _, at := range x {
			if a == i {
				end = at
			}
		}
	}
	return end
}

// ruledName is what a name is; there is one.
func ruledName(u api.Unit, l api.Layout, name string) (api.Symbol, api.Errno) {
	m, is := ruledMark(u, name)
	there := m.Part > -1 && m.Part < len(u.Parts)
	switch {
	case !is && !slices.ContainsFunc(u.Globals, func(x api.Told) bool { return x.Name == name }):
		return api.Symbol{}, 4
	case !is:
		return api.Symbol{Name: name, Section: -1}, 0
	case !m.Equ && !there:
		return api.Symbol{Name: name, Section: -2}, 0
	case !m.Equ:
		return api.Symbol{Name: name, Section: m.Part, Value: ruledAt(l.At, m.Part, m.Piece)}, 0
	case ruledCycle(u, m):
		return api.Symbol{}, 170
	}
	var syms []api.Symbol
	for _, needed := range []string{m.V.Plus, m.V.Minus} {
		if needed == "" || needed == "." {
			continue
		}
		s, e := ruledName(u, l, needed)
		if e != 0 {
			return api.Symbol{}, e
		}
		syms = append(syms, s)
	}
	s, e := ruledEval(m.V, m.Part, ruledAt(l.At, m.Part, m.Piece), syms)
	if e == 0 && s.Section > -1 && (s.Value < 0 || ruledEnd(l.At, s.Section) < s.Value) {
		e = 7
	}
	if e != 0 {
		return api.Symbol{}, e
	}
	s.Name = name
	return s, 0
}

// ruledSymbols is what Symbols says: each put where it belongs.
func ruledSymbols(u api.Unit, l api.Layout) ([]api.Symbol, []api.Fault) {
	var faults []api.Fault
	var order []string
	all := map[string]api.Symbol{}
	know := func(name string, m api.Mark) {
		s, e := ruledName(u, l, name)
		if e != 0 {
			faults = append(faults, api.Fault{File: m.File, Line: m.Line, Err: e})
			return
		}
		key := "0" + name
		if s.Global = slices.ContainsFunc(u.Globals, func(x api.Told) bool { return x.Name == name }); s.Global {
			key = "1" + name
		}
		all[key] = s
		order = append(order, key)
	}
	var seen []string
	for _, m := range u.Marks {
		if !slices.Contains(seen, m.Name) {
			seen = append(seen, m.Name)
			know(m.Name, m)
		}
	}
	for _, x := range u.Globals {
		if !slices.Contains(seen, x.Name) {
			seen = append(seen, x.Name)
			know(x.Name, api.Mark{})
		}
	}
	slices.Sort(order)
	var syms []api.Symbol
	for _, key := range order {
		syms = append(syms, all[key])
	}
	return syms, faults
}

// ruledBind is what Bind says.
func ruledBind(l api.Line, part int, off int64, syms []api.Symbol) api.Line {
	b := api.Line{Name: l.Name}
	for _, o := range l.Opers {
		if s, e := ruledEval(o.V, part, off, syms); o.Kind != 3 && !o.Lo && o.V.Plus+o.V.Minus != "" && e == 0 && s.Section == -2 {
			o.V = api.Value{Add: s.Value}
		}
		b.Opers = append(b.Opers, o)
	}
	return b
}

// ruledOdd is what Odd says.
func ruledOdd(u api.Unit, l api.Layout) []api.Fault {
	var faults []api.Fault
	for i, x := range u.Parts {
		for j, p := range x.Pieces {
			if (p.Kind == 1 || p.Kind == 2) && ruledAt(l.At, i, j)&3 > 0 {
				faults = append(faults, api.Fault{File: p.File, Line: p.Line, Err: 172})
			}
		}
	}
	return faults
}

// text is all that a unit has.
func text(u api.Unit) string {
	var l []string
	for _, p := range u.Parts {
		l = append(l, fmt.Sprintf("part %q %d:%d", p.Name, p.File, p.Line))
		for _, x := range p.Pieces {
			l = append(l, fmt.Sprintf("%d %d:%d %s %q %d %x %d", x.Kind, x.File, x.Line, lineText(x.L), fmt.Sprint(x.V), x.Size, x.B, x.Align))
		}
	}
	for _, m := range u.Marks {
		l = append(l, fmt.Sprintf("mark %q %d:%d %d:%d %t %q", m.Name, m.File, m.Line, m.Part, m.Piece, m.Equ, fmt.Sprint(m.V)))
	}
	for _, x := range u.Globals {
		l = append(l, fmt.Sprintf("global %q %d:%d", x.Name, x.File, x.Line))
	}
	return strings.Join(l, "; ")
}

func lineText(l api.Line) string {
	s := fmt.Sprintf("%q", l.Name)
	for _, o := range l.Opers {
		s += fmt.Sprintf(" %q", fmt.Sprintf("%+v", o))
	}
	return s
}

// layoutText is all that a layout has: an empty list is as none.
func layoutText(l api.Layout) string { return fmt.Sprintf("%d %t", l.At, l.Long) }

func short(s string) string { return fmt.Sprintf("%.3000s", s) }

// laid holds Lay of a unit against the rules, and P17.7.
func laid(t *testing.T, u api.Unit) api.Layout {
	t.Helper()
	was := text(u)
	want, wrong := ruledLay(u)
	l, faults := place.Lay(u)
	if layoutText(l) != layoutText(want) || !slices.Equal(faults, wrong) {
		t.Fatalf("Lay of %s: %s, %v, not %s, %v", short(was), short(layoutText(l)), faults, short(layoutText(want)), wrong)
	}
	if text(u) != was {
		t.Fatalf("Lay of %s: now it is %s", short(was), short(text(u)))
	}
	if len(faults) == 0 {
		stands(t, u, l)
	}
	return l
}

// stands holds a layout against P17.7: pieces are as long as they are, and stand one behind the other; each branch that is not long reaches.
func stands(t *testing.T, u api.Unit, l api.Layout) {
	t.Helper()
	for i, x := range u.Parts {
		at := int64(0)
		for j, p := range x.Pieces {
			if l.At[i][j] != at {
				t.Fatalf("%s: piece %d of part %d at %d, not %d", short(text(u)), j, i, l.At[i][j], at)
			}
			switch p.Kind {
			case api.PcInst, api.PcBranch:
				at += 4
			case api.PcData:
				at += int64(p.Size)
			case api.PcBytes:
				at += int64(len(p.B))
			case api.PcAlign:
				at = (at + 1<<p.Align - 1) / (1 << p.Align) * (1 << p.Align)
			}
			if l.Long[i][j] {
				at += 4
			}
			reach(t, u, l, i, j)
		}
		if len(l.At[i]) != len(x.Pieces)+1 || l.At[i][len(x.Pieces)] != at || at > api.MaxSecBytes {
			t.Fatalf("%s: part %d ends at %d: %d", short(text(u)), i, at, l.At[i])
		}
	}
}

// reach holds a piece of a layout against P17.7, if it is a branch to a label of its part.
func reach(t *testing.T, u api.Unit, l api.Layout, part, piece int) {
	t.Helper()
	p := u.Parts[part].Pieces[piece]
	low, high, grows := frag.Grows(p.L)
	if p.Kind != api.PcBranch || !grows || l.Long[part][piece] {
		return
	}
	v := p.L.Opers[len(p.L.Opers)-1].V
	if m, is := frag.Mark(u, v.Plus); is && !m.Equ && m.Part == part {
		if far := l.At[part][m.Piece] + v.Add - l.At[part][piece]; far < low || far > high {
			t.Fatalf("%s: piece %d of part %d is not long, and leads %d bytes on", short(text(u)), piece, part, far)
		}
	}
}

// asked asks everything of a unit in a layout, and holds it against the rules.
func asked(t *testing.T, u api.Unit, l api.Layout) []api.Symbol {
	t.Helper()
	was, wasLayout := text(u), layoutText(l)
	syms, faults := place.Symbols(u, l)
	if want, wrong := ruledSymbols(u, l); !slices.Equal(syms, want) || !slices.Equal(faults, wrong) {
		t.Fatalf("Symbols of %s, %s: %v, %v, not %v, %v", short(was), short(wasLayout), syms, faults, want, wrong)
	}
	each(t, u, syms, faults)
	odd := slices.Collect(place.Odd(u, l))
	if want := ruledOdd(u, l); !slices.Equal(odd, want) {
		t.Fatalf("Odd of %s, %s: %v, not %v", short(was), short(wasLayout), odd, want)
	}
	if text(u) != was || layoutText(l) != wasLayout {
		t.Fatalf("what was handed in is now %s, %s, not %s, %s", short(text(u)), short(layoutText(l)), short(was), short(wasLayout))
	}
	return syms
}

// each holds what Symbols answers against P17.5.
func each(t *testing.T, u api.Unit, syms []api.Symbol, faults []api.Fault) {
	t.Helper()
	names := map[string]int{}
	for _, s := range syms {
		if names[s.Name]++; names[s.Name] > 1 {
			t.Fatalf("Symbols of %s: %v", short(text(u)), syms)
		}
	}
	lost := map[string]int{}
	for _, m := range u.Marks {
		if names[m.Name] == 0 {
			lost[m.Name]++
		}
	}
	for _, x := range u.Globals {
		if names[x.Name] == 0 && lost[x.Name] == 0 {
			t.Fatalf("Symbols of %s: %v, without %q", short(text(u)), syms, x.Name)
		}
	}
	if len(lost) != len(faults) {
		t.Fatalf("Symbols of %s: %v, and %v for %v", short(text(u)), syms, faults, lost)
	}
}

// valued asks what a value comes to, alone and in a line, and holds it against the rules.
func valued(t *testing.T, v api.Value, part int, off int64, syms ...api.Symbol) (api.Symbol, api.Errno) {
	t.Helper()
	was := slices.Clone(syms)
	s, e := place.Eval(v, part, off, syms...)
	if want, wrong := ruledEval(v, part, off, syms); s != want || e != wrong {
		t.Fatalf("Eval of %+v, %d, %d, %v: %v, %d, not %v, %d", v, part, off, syms, s, e, want, wrong)
	}
	bound(t, api.Line{Name: "x", Opers: []api.Oper{{Kind: api.OrNum, V: v}, {Kind: api.OrTo, V: v}, {Kind: api.OrMem, V: v, Lo: true}}}, part, off, syms...)
	if !slices.Equal(syms, was) {
		t.Fatalf("Eval of %+v: the symbols are now %v, not %v", v, syms, was)
	}
	return s, e
}

// bound holds Bind of a line against the rules.
func bound(t *testing.T, l api.Line, part int, off int64, syms ...api.Symbol) api.Line {
	t.Helper()
	was, wasSyms := lineText(l), slices.Clone(syms)
	b := place.Bind(l, part, off, syms...)
	if want := ruledBind(l, part, off, syms); lineText(b) != lineText(want) {
		t.Fatalf("Bind of %s, %d, %d, %v: %s, not %s", was, part, off, syms, lineText(b), lineText(want))
	}
	if lineText(l) != was || !slices.Equal(syms, wasSyms) {
		t.Fatalf("Bind of %s, %v: now they are %s, %v", was, wasSyms, lineText(l), syms)
	}
	return b
}
