package stmt_test

import (
	"math"
	"math/rand/v2"
	"slices"
	"strings"
	"testing"

	"cooper/api"
	"cooper/lex"
	"cooper/stmt"
)

func random() *rand.Rand { return rand.New(rand.NewPCG(11, 1)) }

func one[T any](r *rand.Rand, l ...T) T { return l[r.IntN(len(l))] }

func drawnName(r *rand.Rand) string {
	return one(r, "a", "b", "x0", "b.eq", "$1", ".L1", ".text", ".data", ".x", "_", "..", "eq", "lo12")
}

func drawnValue(r *rand.Rand) api.Value {
	v := api.Value{Add: one(r, 0, 1, 12, 13, -1, math.MaxInt64, math.MinInt64, int64(r.Uint64()>>r.IntN(64)))}
	if r.IntN(2) == 0 {
		v.Plus = one(r, "", "a", ".", "x0")
		v.Minus = one(r, "", "", "b", "eq")
	}
	return v
}

func drawnOper(r *rand.Rand) api.Oper {
	base := api.Reg{N: r.IntN(31), X: true}
	return one(r,
		api.Oper{Kind: api.OrReg, R: base},
		api.Oper{Kind: api.OrReg, R: base, Mod: api.ModLsl, Amt: r.IntN(64)},
		api.Oper{Kind: api.OrNum, V: drawnValue(r)},
		api.Oper{Kind: api.OrNum, V: drawnValue(r), Lo: true},
		api.Oper{Kind: api.OrTo, V: drawnValue(r)},
		api.Oper{Kind: api.OrCond, N: r.Int64N(16)},
		api.Oper{Kind: api.OrBar, N: r.Int64N(16)},
		api.Oper{Kind: api.OrPrf, N: r.Int64N(32)},
		api.Oper{Kind: api.OrFld, N: r.Int64N(6)},
		api.Oper{Kind: api.OrMem, R: base},
		api.Oper{Kind: api.OrMem, R: base, V: drawnValue(r), Mode: r.IntN(3)},
	)
}

func some[T any](r *rand.Rand, least, most int, draw func(*rand.Rand) T) []T {
	var l []T
	for range least + r.IntN(most-least+1) {
		l = append(l, draw(r))
	}
	return l
}

// drawnStmt is a statement, mostly one that may be.
func drawnStmt(r *rand.Rand) api.Stmt {
	s := api.Stmt{Kind: r.IntN(8), Labels: some(r, 0, one(r, 0, 2, 8), drawnName)}
	most := one(r, 1, 3, 66)
	switch s.Kind {
	case api.StInst:
		s.Line = api.Line{Name: one(r, "add", "b.eq", "x0", "_", "$", "nop"), Opers: some(r, 0, one(r, 1, 3, 9), drawnOper)}
	case api.StSection:
		s.Names = some(r, 1, 1, drawnName)
	case api.StGlobal:
		s.Names = some(r, 1, most, drawnName)
	case api.StAlign:
		s.Values = []api.Value{{Add: r.Int64N(13)}}
	case api.StData:
		s.Size, s.Values = one(r, 1, 4, 8), some(r, 1, most, drawnValue)
	case api.StAscii:
		s.Bytes = some(r, 0, one(r, 5, 80), func(r *rand.Rand) byte { return byte(r.Uint32()) })
	case api.StEqu:
		s.Names, s.Values = some(r, 1, 1, drawnName), some(r, 1, 1, drawnValue)
	}
	return s
}

// changed is a statement with a field that is another one.
func changed(r *rand.Rand, s api.Stmt) api.Stmt {
	number := one(r, -1, 0, 1, 2, 3, 4, 5, 6, 7, 8, 9, 16, 256, math.MaxInt, math.MinInt)
	wrong := one(r, "", ".", "1", "a b", "a:", "é", "a", "x1")
	switch r.IntN(8) {
	case 0:
		s.Kind = number
	case 1:
		s.Size = number
	case 2:
		s.Labels = append(some(r, 0, 9, drawnName), wrong)
	case 3:
		s.Names = append(some(r, 0, one(r, 1, 66), drawnName), wrong)
	case 4:
		s.Values = append(some(r, 0, one(r, 1, 66), drawnValue), one(r, drawnValue(r), api.Value{Plus: wrong}, api.Value{Add: 1, Minus: wrong}, api.Value{Plus: "a", Minus: "a"}))
	case 5:
		s.Bytes = one(r, nil, []byte{}, []byte{1})
	case 6:
		s.Line.Name = one(r, wrong, ".text", "ret", "")
	case 7:
		s.Line.Opers = append(some(r, 0, 2, drawnOper), one(r, drawnOper(r), api.Oper{}, api.Oper{Kind: api.OrTo, V: api.Value{Plus: "x0"}}, api.Oper{Kind: api.OrNum, V: api.Value{Plus: wrong}}))
	}
	return s
}

// P11.1, P11.5, P11.6: behind each of these all rows of up to four of some tokens.
func TestParseShort(t *testing.T) {
	heads := strings.Fields("a: .text .data .section .global .align .byte .word .quad .ascii .equ add . .x 1 ,")
	all := []string{"a", ".", ".text", "7", ",", ":", "-", "*", "(", ")", `"q"`, "#"}
	var each func(line string, left int)
	each = func(line string, left int) {
		held(t, line)
		if left == 0 {
			return
		}
		for _, x := range all {
			each(line+" "+x, left-1)
		}
	}
	for _, x := range heads {
		each(x, 3)
	}
	all = []string{"a", ".", ",", "1"}
	for _, x := range heads {
		each(x, 5)
	}
	all = []string{"a", ".", ":", ".text"}
	each("", 6)
}

// P11.1, P11.5, P11.6: drawn rows of pieces, and lines of statements with a piece changed, put in or left out.
func TestParseDrawn(t *testing.T) {
	r := random()
	piece := func(r *rand.Rand) string {
		return one(r, drawnName(r)+":", drawnName(r), ",", ",", ":", "1", "-", "+", "/", "~", "(", ")", "12", "13", "-1", "0xffffffffffffffff", "a-b", "'a'", `"\n"`, ".align", ".byte", ".equ", ".global", ".ascii", "#", "[", "]", "!", "x0", "lsl", "//", ";", `"`, "08")
	}
	for range 15000 {
		held(t, strings.Join(some(r, 0, 9, piece), one(r, "", " ")))
		line, e := stmt.Print(drawnStmt(r))
		if e != api.OK {
			continue
		}
		held(t, line)
		var l []string
		for x := range lex.Tokens(line) {
			l = append(l, lex.Text(x))
		}
		if len(l) == 0 {
			continue
		}
		at := r.IntN(len(l))
		held(t, strings.Join(l[:at], " "))
		held(t, strings.Join(slices.Delete(slices.Clone(l), at, at+1), " "))
		held(t, strings.Join(slices.Insert(slices.Clone(l), at, piece(r)), " "))
		held(t, strings.Join(slices.Concat(l, []string{","}, l[:at]), " "))
		l[at] = piece(r)
		held(t, strings.Join(l, " "))
	}
}

// P11.2 to P11.4: drawn statements, and such with fields changed.
func TestStatementsDrawn(t *testing.T) {
	r := random()
	for range 20000 {
		s := drawnStmt(r)
		checked(t, s)
		s = changed(r, s)
		checked(t, s)
		checked(t, changed(r, s))
	}
}

// P11.3: two drawn statements are the same where all their fields are.
func TestSameDrawn(t *testing.T) {
	r := random()
	for range 20000 {
		a := drawnStmt(r)
		b := stmt.Plain(a)
		for range r.IntN(3) {
			b = changed(r, b)
		}
		if got, want := stmt.Same(a, b), key(a) == key(b); got != want || stmt.Same(b, a) != want {
			t.Fatalf("Same(%s, %s): %t", short(a), short(b), got)
		}
	}
}
