package source_test

import (
	"math"
	"math/rand/v2"
	"slices"
	"strings"
	"testing"

	"cooper/api"
	"cooper/source"
)

func random() *rand.Rand { return rand.New(rand.NewPCG(13, 1)) }

func one[T any](r *rand.Rand, l ...T) T { return l[r.IntN(len(l))] }

func some[T any](r *rand.Rand, most int, draw func(*rand.Rand) T) []T {
	var l []T
	for range r.IntN(most + 1) {
		l = append(l, draw(r))
	}
	return l
}

// drawnLine is a line of a file, or of one that is wrong.
func drawnLine(r *rand.Rand) string {
	switch r.IntN(8) {
	case 0:
		return string(some(r, 6, func(r *rand.Rand) byte { return byte(r.Uint32()) }))
	case 1:
		return strings.Repeat(one(r, " ", "a", "a:", "é"), r.IntN(600))
	}
	return one(r,
		"", "", " ", "\t// none", "\r", "\x00",
		"a:", "a: b:", " a : // one", "ret", "loop: b loop", "b 8", "mov x0, #0x10\t", "b: dmb #0", "ldr x0, [x1]", "add x0, x0, :lo12:v + 4",
		".text", ".data", ".section .bss", ".global a, b", ".align 3", ".byte 'a', 1", ".quad a - b", `.ascii "\n\x0a//"`, ".equ a, 1 + 2",
		".foo", ".align 13", ".align x", ".byte", "1", "a: .", ";", `"`, "08", "a b c", ".byte 1/0", "ret\r",
	)
}

func drawnText(r *rand.Rand) string {
	return strings.Join(some(r, one(r, 1, 3, 8, 30), drawnLine), "\n") + one(r, "", "\n", "\n\n")
}

func drawnOper(r *rand.Rand) api.Oper {
	v := one(r, api.Value{}, api.Value{Add: 8}, api.Value{Plus: "a"}, api.Value{Plus: "a", Minus: "b", Add: -1}, api.Value{Plus: "a b"})
	return api.Oper{Kind: one(r, api.OrTo, api.OrTo, api.OrNum, api.OrBar, api.OrFld, 0), V: v}
}

// drawnRow is a row, mostly of a statement that may be.
func drawnRow(r *rand.Rand) api.Row {
	s := one(r,
		api.Stmt{},
		api.Stmt{Labels: []string{"a", "b"}},
		api.Stmt{Kind: api.StInst, Line: api.Line{Name: "ret"}},
		api.Stmt{Kind: api.StInst, Line: api.Line{Name: "b", Opers: []api.Oper{{Kind: api.OrTo, V: api.Value{Add: r.Int64()}}}}},
		api.Stmt{Kind: api.StInst, Line: api.Line{Name: "b", Opers: some(r, 3, drawnOper)}},
		api.Stmt{Kind: api.StSection, Names: []string{".text"}},
		api.Stmt{Kind: api.StGlobal, Names: []string{"a", "b"}},
		api.Stmt{Kind: api.StAlign, Values: []api.Value{{Add: r.Int64N(14)}}},
		api.Stmt{Kind: api.StData, Size: 4, Values: []api.Value{{Plus: "a", Add: 1}, {}}},
		api.Stmt{Kind: api.StAscii, Bytes: some(r, 180, func(r *rand.Rand) byte { return byte(r.Uint32()) })},
		api.Stmt{Kind: api.StEqu, Names: []string{"a"}, Values: []api.Value{{Add: -1}}},
	)
	if r.IntN(4) == 0 {
		s.Labels = append(s.Labels, "c")
	}
	if r.IntN(40) == 0 {
		s.Kind = r.IntN(10) - 1
	}
	return api.Row{Line: one(r, r.IntN(9), -1, math.MaxInt, math.MinInt), S: s}
}

// P13.1, P13.3 to P13.5: drawn texts.
func TestTextsDrawn(t *testing.T) {
	r := random()
	for range 5000 {
		read(t, r.IntN(16), drawnText(r))
	}
	for range 10 {
		read(t, r.IntN(16), strings.Repeat(drawnText(r)+"\n", 1000))
	}
}

// P13.1, P13.3, P13.5: all texts of up to seven of these.
func TestTextsShort(t *testing.T) {
	var each func(text string, left int)
	each = func(text string, left int) {
		read(t, 0, text)
		if left > 0 {
			for _, x := range []string{"\n", "a:", ";", " "} {
				each(text+x, left-1)
			}
		}
	}
	each("", 7)
}

// P13.2, P13.4: drawn rows.
func TestRowsDrawn(t *testing.T) {
	r := random()
	for range 20000 {
		written(t, some(r, one(r, 1, 4, 12), drawnRow))
	}
}

// P13.2: drawn rows are the same where all that they have is.
func TestSameDrawn(t *testing.T) {
	r := random()
	for range 20000 {
		a := some(r, 4, drawnRow)
		b := deep(a)
		switch r.IntN(4) {
		case 0:
			b = append(b, drawnRow(r))
		case 1:
			b = some(r, 4, drawnRow)
		case 2:
			if len(b) > 0 {
				b[r.IntN(len(b))] = drawnRow(r)
			}
		}
		if got, want := source.Same(a, b), same(a, b); got != want || source.Same(b, a) != want {
			t.Fatalf("Same(%s, %s): %t", short(a), short(b), got)
		}
	}
}

func drawnFault(r *rand.Rand) api.Fault {
	return api.Fault{File: r.IntN(3), Line: r.IntN(4), Err: api.Errno(r.IntN(4))}
}

// P13.3, P13.6: the first of drawn faults, in whatever order they stand.
func TestFirstDrawn(t *testing.T) {
	r := random()
	for range 20000 {
		l := append(some(r, one(r, 1, 5, 40), drawnFault), drawnFault(r))
		was := slices.Clone(l)
		first, is := source.First(l...)
		if !is || !slices.Contains(l, first) || !slices.Equal(l, was) {
			t.Fatalf("First(%v): %v, %t, of %v", was, first, is, l)
		}
		for _, f := range l {
			if ruledLess(f, first) {
				t.Fatalf("First(%v): %v, behind %v", l, first, f)
			}
		}
		r.Shuffle(len(l), func(i, j int) { l[i], l[j] = l[j], l[i] })
		if again, is := source.First(l...); again != first || !is {
			t.Fatalf("First(%v): %v, of %v it was %v", l, again, was, first)
		}
	}
}
