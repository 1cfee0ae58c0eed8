package frag_test

import (
	"fmt"
	"regexp"
	"slices"
	"strings"
	"testing"

	"cooper/api"
	"cooper/frag"
)

// The document's rules, written down a second time, in other ways: with its numbers, and each counted from all that stands ahead of it.

var (
	ruledNames = regexp.MustCompile(`(?s)^(?:(b\..*|cbn?z)|tbn?z)$`)
	ruledZeros = regexp.MustCompile(`(?s)^\.bss(\..*)?$`)
)

// ruledGrows is what Grows says.
func ruledGrows(l api.Line) (int64, int64, bool) {
	name := ruledNames.FindStringSubmatch(l.Name)
	if name == nil {
		return 0, 0, false
	}
	if len(l.Opers) == 0 {
		return 0, 0, false
	}
	o := l.Opers[len(l.Opers)-1]
	switch {
	case o.Kind != 3, o.V.Minus > "", o.V.Plus == "", o.V.Plus == ".":
		return 0, 0, false
	case name[1] == "":
		return -32768, 32764, true
	}
	return -1048576, 1048572, true
}

// A ruledThing is what a row puts into a section: a piece, or a mark.
type ruledThing struct {
	section string
	piece   *api.Piece
	mark    *api.Mark
}

// ruledRow is what a row in a section puts there, what is wrong with it, and in which section it ends.
func ruledRow(section string, r api.Row) ([]ruledThing, []api.Errno, string) {
	var things []ruledThing
	var wrong []api.Errno
	mark := func(m api.Mark) {
		if len(m.Name) >= 256 {
			wrong = append(wrong, 3)
			return
		}
		things = append(things, ruledThing{section: section, mark: &m})
	}
	piece := func(p api.Piece, zero bool) {
		if ruledZeros.MatchString(section) && !zero {
			wrong = append(wrong, 150)
			return
		}
		things = append(things, ruledThing{section: section, piece: &p})
	}
	for _, label := range r.S.Labels {
		mark(api.Mark{Name: label})
	}
	names, values := append(slices.Clone(r.S.Names), ""), append(slices.Clone(r.S.Values), api.Value{})
	switch r.S.Kind {
	case 1:
		if _, _, is := ruledGrows(r.S.Line); is {
			piece(api.Piece{Kind: 2, L: r.S.Line}, false)
		} else {
			piece(api.Piece{Kind: 1, L: r.S.Line}, false)
		}
	case 2:
		if len(names[0]) >= 33 {
			return things, append(wrong, 3), section
		}
		return append(things, ruledThing{section: names[0]}), wrong, names[0]
	case 4:
		piece(api.Piece{Kind: 5, Align: int(values[0].Add)}, true)
	case 5:
		for _, v := range r.S.Values {
			piece(api.Piece{Kind: 3, V: v, Size: r.S.Size}, v.Add == 0 && v.Plus+v.Minus == "")
		}
	case 6:
		piece(api.Piece{Kind: 4, B: r.S.Bytes}, string(r.S.Bytes) == "")
	case 7:
		mark(api.Mark{Name: names[0], Equ: true, V: values[0]})
	}
	return things, wrong, section
}

// ruledOne is what One says: all things, and then of each which part it is in, and how many pieces of it stand ahead.
func ruledOne(file int, rows []api.Row) (api.Unit, []api.Fault) {
	var u api.Unit
	var faults []api.Fault
	section := ".text"
	pieces := map[string]int{}
	for _, r := range rows {
		for _, name := range r.S.Names {
			if r.S.Kind == 3 && len(name) < 256 {
				u.Globals = append(u.Globals, api.Told{Name: name, File: file, Line: r.Line})
			}
		}
		things, wrong, after := ruledRow(section, r)
		section = after
		for _, name := range r.S.Names {
			if r.S.Kind == 3 && len(name) >= 256 {
				wrong = append(wrong, 3)
			}
		}
		for _, e := range wrong {
			faults = append(faults, api.Fault{File: file, Line: r.Line, Err: e})
		}
		for _, x := range things {
			at := slices.IndexFunc(u.Parts, func(p api.Part) bool { return p.Name == x.section })
			if at < 0 {
				at = len(u.Parts)
				u.Parts = append(u.Parts, api.Part{Name: x.section, File: file, Line: r.Line})
			}
			if x.mark != nil {
				x.mark.File, x.mark.Line, x.mark.Part, x.mark.Piece = file, r.Line, at, pieces[x.section]
				u.Marks = append(u.Marks, *x.mark)
			}
			if x.piece != nil {
				x.piece.File, x.piece.Line = file, r.Line
				u.Parts[at].Pieces = append(u.Parts[at].Pieces, *x.piece)
				pieces[x.section]++
			}
		}
	}
	return u, faults
}

// ruledJoin is what Join says: part by part all units' pieces of that name, and of each mark how many pieces stand ahead of its part's.
func ruledJoin(l []api.Unit) api.Unit {
	var j api.Unit
	var names []string
	for _, u := range l {
		for _, p := range u.Parts {
			if !slices.Contains(names, p.Name) {
				names = append(names, p.Name)
				j.Parts = append(j.Parts, api.Part{Name: p.Name, File: p.File, Line: p.Line})
			}
		}
	}
	for at, name := range names {
		for _, u := range l {
			for _, p := range u.Parts {
				if p.Name == name {
					j.Parts[at].Pieces = append(j.Parts[at].Pieces, p.Pieces...)
				}
			}
		}
	}
	for i, u := range l {
		j.Globals = append(j.Globals, u.Globals...)
		for _, m := range u.Marks {
			j.Marks = append(j.Marks, ruledMoved(l, i, m, names))
		}
	}
	return j
}

// ruledMoved is a mark of the i-th unit where all are joined to parts of those names.
func ruledMoved(l []api.Unit, i int, m api.Mark, names []string) api.Mark {
	for part, p := range l[i].Parts {
		if part != m.Part {
			continue
		}
		m.Part = slices.Index(names, p.Name)
		for _, u := range l[:i] {
			for _, x := range u.Parts {
				if x.Name == p.Name {
					m.Piece += len(x.Pieces)
				}
			}
		}
		for _, x := range l[i].Parts[:part] {
			if x.Name == p.Name {
				m.Piece += len(x.Pieces)
			}
		}
		return m
	}
	m.Part, m.Piece = -1, 0
	return m
}

// ruledFaults is what Faults says: each put where it belongs.
func ruledFaults(u api.Unit) []api.Fault {
	var l []api.Fault
	put := func(f api.Fault) {
		at := 0
		for at < len(l) && (l[at].File < f.File || l[at].File == f.File && (l[at].Line < f.Line || l[at].Line == f.Line && l[at].Err <= f.Err)) {
			at++
		}
		l = slices.Insert(l, at, f)
	}
	for i, m := range u.Marks {
		for _, x := range u.Marks[:i] {
			if x.Name == m.Name {
				put(api.Fault{File: m.File, Line: m.Line, Err: 5})
				break
			}
		}
	}
	for i, p := range u.Parts {
		if i > 63 {
			put(api.Fault{File: p.File, Line: p.Line, Err: 3})
		}
	}
	return l
}

// ruledMark is what Mark says: the last one that is found from the end.
func ruledMark(u api.Unit, name string) (api.Mark, bool) {
	var found api.Mark
	is := false
	for _, m := range slices.Backward(u.Marks) {
		if m.Name == name {
			found, is = m, true
		}
	}
	return found, is
}

// ruledItems is what Items says.
func ruledItems(u api.Unit, part int) []api.Item {
	var l []api.Item
	for i, x := range u.Parts {
		if i != part {
			continue
		}
		for _, p := range x.Pieces {
			size := map[int]int64{1: 4, 2: 4, 3: int64(p.Size), 4: int64(len(p.B))}[p.Kind]
			item := api.Item{Kind: 1, Size: size}
			if p.Kind == 5 {
				item = api.Item{Kind: 2, Align: p.Align}
			}
			if low, high, is := ruledGrows(p.L); is && p.Kind == 2 {
				v := p.L.Opers[len(p.L.Opers)-1].V
				if m, is := ruledMark(u, v.Plus); is && m.Part == part && !m.Equ {
					item = api.Item{Kind: 3, To: m.Piece, Add: v.Add, Low: low, High: high}
				}
			}
			l = append(l, item)
		}
	}
	return l
}

func pieceText(p api.Piece) string {
	return fmt.Sprintf("%d %d:%d %q %v %+v %d %q %d", p.Kind, p.File, p.Line, p.L.Name, operTexts(p.L.Opers), p.V, p.Size, string(p.B), p.Align)
}

func operTexts(l []api.Oper) []string {
	var texts []string
	for _, o := range l {
		texts = append(texts, fmt.Sprintf("%+v", o))
	}
	return texts
}

// text is a unit as a text in which nil and empty lists are the same.
func text(u api.Unit) string {
	var l []string
	for _, p := range u.Parts {
		l = append(l, fmt.Sprintf("part %q %d:%d", p.Name, p.File, p.Line))
		for _, x := range p.Pieces {
			l = append(l, pieceText(x))
		}
	}
	for _, m := range u.Marks {
		l = append(l, fmt.Sprintf("mark %q %d:%d %d:%d %t %q", m.Name, m.File, m.Line, m.Part, m.Piece, m.Equ, fmt.Sprint(m.V)))
	}
	for _, x := range u.Globals {
		l = append(l, fmt.Sprintf("global %q %d:%d", x.Name, x.File, x.Line))
	}
	return fmt.Sprintf("%d parts, %d marks, %d globals: %s", len(u.Parts), len(u.Marks), len(u.Globals), strings.Join(l, "; "))
}

func texts(l []api.Unit) string {
	all := fmt.Sprintf("%d units", len(l))
	for _, u := range l {
		all += " | " + text(u)
	}
	return all
}

func rowTexts(rows []api.Row) string {
	all := fmt.Sprintf("%d rows", len(rows))
	for _, r := range rows {
		all += fmt.Sprintf(" | %d: %q %d %q %v %q %d %v %q", r.Line, r.S.Labels, r.S.Kind, r.S.Line.Name, operTexts(r.S.Line.Opers), r.S.Names, r.S.Size, r.S.Values, string(r.S.Bytes))
	}
	return all
}

func short(s string) string { return fmt.Sprintf("%.3000s", s) }

// deep is a unit in memory of its own.
func deep(u api.Unit) api.Unit {
	c := api.Unit{Marks: append([]api.Mark{}, u.Marks...), Globals: append([]api.Told{}, u.Globals...)}
	for _, p := range u.Parts {
		l := []api.Piece{}
		for _, x := range p.Pieces {
			x.L.Opers = append([]api.Oper{}, x.L.Opers...)
			x.B = append([]byte{}, x.B...)
			l = append(l, x)
		}
		p.Pieces = l
		c.Parts = append(c.Parts, p)
	}
	return c
}

// spoilPiece changes all that a piece's lists hold.
func spoilPiece(p api.Piece) {
	for i := range p.L.Opers {
		p.L.Opers[i] = api.Oper{Kind: -1, V: api.Value{Plus: "spoiled"}}
	}
	for i := range p.B {
		p.B[i] ^= 0xff
	}
}

// spoil changes all that a unit's lists hold.
func spoil(u api.Unit) {
	for i, p := range u.Parts {
		for j, x := range p.Pieces {
			spoilPiece(x)
			p.Pieces[j] = api.Piece{Kind: -1, L: api.Line{Name: "spoiled"}}
		}
		u.Parts[i] = api.Part{Name: "spoiled", Line: -1}
	}
	for i := range u.Marks {
		u.Marks[i] = api.Mark{Name: "spoiled", Part: -9, Piece: -9}
	}
	for i := range u.Globals {
		u.Globals[i] = api.Told{Name: "spoiled", Line: -9}
	}
}

// spoilRows changes all that the rows' lists hold.
func spoilRows(rows []api.Row) {
	for i, r := range rows {
		for _, l := range [][]string{r.S.Labels, r.S.Names} {
			for j := range l {
				l[j] = "spoiled"
			}
		}
		for j := range r.S.Line.Opers {
			r.S.Line.Opers[j] = api.Oper{Kind: -1}
		}
		for j := range r.S.Values {
			r.S.Values[j] = api.Value{Add: -1, Plus: "spoiled"}
		}
		for j := range r.S.Bytes {
			r.S.Bytes[j] ^= 0xff
		}
		rows[i] = api.Row{Line: -9}
	}
}

// parted holds One of rows against the document, and what follows from it.
func parted(t *testing.T, file int, rows []api.Row) api.Unit {
	t.Helper()
	was := rowTexts(rows)
	want, wrong := ruledOne(file, rows)
	u, faults := frag.One(file, rows)
	if text(u) != text(want) || !slices.Equal(faults, wrong) {
		t.Fatalf("One of %d, %s: %s and %v, not %s and %v", file, short(was), short(text(u)), faults, short(text(want)), wrong)
	}
	keep := deep(u)
	if text(frag.Join(u)) != text(u) {
		t.Fatalf("Join of what One answers of %s: %s", short(was), short(text(frag.Join(u))))
	}
	spoil(u)
	if rowTexts(rows) != was {
		t.Fatalf("One of %s: the rows are changed: %s", short(was), short(rowTexts(rows)))
	}
	return keep
}

// joined holds Join of units against the document, P15.5 and P15.6.
func joined(t *testing.T, l []api.Unit) api.Unit {
	t.Helper()
	was := texts(l)
	want := text(ruledJoin(l))
	j := frag.Join(l...)
	if text(j) != want {
		t.Fatalf("Join of %s: %s, not %s", short(was), short(text(j)), short(want))
	}
	if frag.Same(frag.Join(j), j) != true {
		t.Fatalf("Join of what Join answers of %s: %s", short(was), short(text(frag.Join(j))))
	}
	for from := range l {
		for to := from; to <= len(l); to++ {
			groups := slices.Concat(l[:from], []api.Unit{frag.Join(l[from:to]...)}, l[to:])
			if got := frag.Join(groups...); text(got) != want {
				t.Fatalf("Join of %s, %d to %d of them first: %s, not %s", short(was), from, to, short(text(got)), short(want))
			}
		}
	}
	count := func(l ...api.Unit) int {
		n := 0
		for _, u := range l {
			for range frag.Pieces(u) {
				n++
			}
		}
		return n
	}
	if count(j) != count(l...) {
		t.Fatalf("Join of %s: %d pieces, not %d", short(was), count(j), count(l...))
	}
	keep := deep(j)
	spoil(j)
	if texts(l) != was {
		t.Fatalf("Join of %s: the units are changed: %s", short(was), short(texts(l)))
	}
	return keep
}

// asked holds what a unit is asked against the document, and P15.7.
func asked(t *testing.T, u api.Unit) {
	t.Helper()
	was := text(u)
	for part := -1; part <= len(u.Parts); part++ {
		got, want := frag.Items(u, part), ruledItems(u, part)
		if !slices.Equal(got, want) {
			t.Fatalf("Items of the part %d of %s: %v, not %v", part, short(was), got, want)
		}
		if part >= 0 && part < len(u.Parts) && len(got) != len(u.Parts[part].Pieces) {
			t.Fatalf("Items of the part %d of %s: %d", part, short(was), len(got))
		}
	}
	if got, want := frag.Faults(u), ruledFaults(u); !slices.Equal(got, want) {
		t.Fatalf("Faults of %s: %v, not %v", short(was), got, want)
	}
	names := []string{"", "none"}
	for _, m := range u.Marks {
		names = append(names, m.Name)
	}
	for _, name := range names {
		got, is := frag.Mark(u, name)
		if want, wantIs := ruledMark(u, name); got != want || is != wantIs {
			t.Fatalf("Mark %q of %s: %+v, %t, not %+v", name, short(was), got, is, want)
		}
	}
	told(t, u)
	if c := deep(u); !frag.Same(c, u) || !frag.Same(u, c) || !frag.Same(u, u) {
		t.Fatalf("Same of %s and itself", short(was))
	}
	if text(u) != was {
		t.Fatalf("%s: changed, it was %s", short(text(u)), short(was))
	}
}

// told holds the pieces that are told against those that there are, wherever it is stopped, and whatever becomes of what is told.
func told(t *testing.T, u api.Unit) {
	t.Helper()
	var want []string
	for i, p := range u.Parts {
		for _, x := range p.Pieces {
			want = append(want, fmt.Sprintf("%d: %s", i, pieceText(x)))
		}
	}
	c := deep(u)
	all := frag.Pieces(c)
	spoil(c)
	for stop := range min(len(want), 8) + 2 {
		var got []string
		for part, p := range all {
			got = append(got, fmt.Sprintf("%d: %s", part, pieceText(p)))
			spoilPiece(p)
			if len(got) > stop {
				break
			}
		}
		if !slices.Equal(got, want[:min(stop+1, len(want))]) {
			t.Fatalf("Pieces of %s, up to %d: %q", short(text(u)), stop, got)
		}
	}
}
