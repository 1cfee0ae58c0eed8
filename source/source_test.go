package source_test

import (
	"math"
	"slices"
	"strings"
	"testing"

	"cooper/api"
	"cooper/source"
	"cooper/stmt"
)

func row(line int, s api.Stmt) api.Row { return api.Row{Line: line, S: s} }

// inst is an instruction of places that are numbers.
func inst(name string, places ...int64) api.Stmt {
	s := api.Stmt{Kind: api.StInst, Line: api.Line{Name: name}}
	for _, n := range places {
		s.Line.Opers = append(s.Line.Opers, api.Oper{Kind: api.OrTo, V: api.Value{Add: n}})
	}
	return s
}

func labelled(l ...string) api.Stmt { return api.Stmt{Labels: l} }

func align(n int64) api.Stmt {
	return api.Stmt{Kind: api.StAlign, Values: []api.Value{{Add: n}}}
}

func ascii(s string) api.Stmt { return api.Stmt{Kind: api.StAscii, Bytes: []byte(s)} }

// long is a statement whose line has so many bytes.
func long(bytes int) api.Stmt { return labelled(strings.Repeat("a", bytes-1)) }

// P13.1: what the lines of a text are, up to where the range stops, again and again.
func TestLines(t *testing.T) {
	for _, x := range []struct {
		text string
		want []string
	}{
		{"", nil},
		{"\n", []string{""}},
		{"\n\n", []string{"", ""}},
		{"a", []string{"a"}},
		{"a\n", []string{"a"}},
		{"a\n\n", []string{"a", ""}},
		{"\na", []string{"", "a"}},
		{"a\n\nb\n", []string{"a", "", "b"}},
		{"a\nb\nc", []string{"a", "b", "c"}},
		{"a\n ", []string{"a", " "}},
		// Nothing but a byte 10 ends a line.
		{"a\r\nb\rc\x00\v\f\u0085\u2028d\r", []string{"a\r", "b\rc\x00\v\f\u0085\u2028d\r"}},
		{"\xff\n\xc3", []string{"\xff", "\xc3"}},
		{strings.Repeat("a", 1000) + "\nb", []string{strings.Repeat("a", 1000), "b"}},
	} {
		all := source.Lines(x.text)
		for stop := range len(x.want) + 2 {
			var numbers []int
			var got []string
			for number, line := range all {
				if numbers, got = append(numbers, number), append(got, line); len(got) > stop {
					break
				}
			}
			want := x.want[:min(stop+1, len(x.want))]
			if !slices.Equal(got, want) || len(numbers) > 0 && (numbers[0] != 1 || numbers[len(numbers)-1] != len(numbers)) {
				t.Errorf("Lines(%q): %d %q, not %q", x.text, numbers, got, want)
			}
		}
		read(t, 0, x.text)
	}
}

// P13.1: the document's example, and files' rows and faults in order; what is answered is nobody's else.
func TestParse(t *testing.T) {
	for _, x := range []struct {
		file   int
		text   string
		rows   []api.Row
		faults []api.Fault
	}{
		{0, "", nil, nil},
		{0, "a: nop\n\nfoo: .x\nret", []api.Row{
			row(1, api.Stmt{Labels: []string{"a"}, Kind: api.StInst, Line: api.Line{Name: "nop"}}), row(4, inst("ret")),
		}, []api.Fault{{File: 0, Line: 3, Err: api.ErrDir}}},
		// Lines of nothing are no rows; labels alone are.
		{15, "\n \t\n// a:\na: // b\n\n", []api.Row{row(4, labelled("a"))}, nil},
		{7, ".text\n.align 3\na: b: .ascii \"\\n\"\n", []api.Row{
			row(1, api.Stmt{Kind: api.StSection, Names: []string{".text"}}), row(2, align(3)),
			row(3, api.Stmt{Labels: []string{"a", "b"}, Kind: api.StAscii, Bytes: []byte("\n")}),
		}, nil},
		// The faults of the lines, whichever they are.
		{1, ";\n08\n\"\n1\n.align\n.align 13\n.text a\na b c\n.x\n.byte 1/0\n.byte a*a\nret\n" + strings.Repeat(" ", 513), []api.Row{row(12, inst("ret"))}, []api.Fault{
			{File: 1, Line: 1, Err: api.ErrToken}, {File: 1, Line: 2, Err: api.ErrNum}, {File: 1, Line: 3, Err: api.ErrQuote}, {File: 1, Line: 4, Err: api.ErrStmt},
			{File: 1, Line: 5, Err: api.ErrExpr}, {File: 1, Line: 6, Err: api.ErrRange}, {File: 1, Line: 7, Err: api.ErrOpers}, {File: 1, Line: 8, Err: api.ErrOper},
			{File: 1, Line: 9, Err: api.ErrDir}, {File: 1, Line: 10, Err: api.ErrZero}, {File: 1, Line: 11, Err: api.ErrSyms}, {File: 1, Line: 13, Err: api.ErrLong},
		}},
		// Only a byte 10 parts lines, and it stands within no quotes.
		{2, "a:\r\nb:\n.ascii \"\n\"", []api.Row{row(2, labelled("b"))}, []api.Fault{
			{File: 2, Line: 1, Err: api.ErrToken}, {File: 2, Line: 3, Err: api.ErrQuote}, {File: 2, Line: 4, Err: api.ErrQuote},
		}},
		{2, "// a\nb: // c\n//", []api.Row{row(2, labelled("b"))}, nil},
	} {
		for range 2 {
			rows, faults, e := source.Parse(x.file, x.text)
			if !same(rows, x.rows) || !slices.Equal(faults, x.faults) || e != api.OK {
				t.Errorf("Parse(%d, %q): %s, %v, %d, not %s, %v", x.file, x.text, short(rows), faults, e, short(x.rows), x.faults)
			}
			spoil(rows)
			clear(faults)
		}
		read(t, x.file, x.text)
	}
}

// P13.1: files that there are not, and texts of as many bytes as there may be, and of one more.
func TestParseWrong(t *testing.T) {
	most := strings.Repeat("a:\n;\n", 1<<16/5) + "\n"
	if len(most) != 1<<16 {
		t.Fatal(len(most))
	}
	for _, x := range []struct {
		file int
		text string
		want api.Errno
	}{
		{-1, "ret", api.ErrArg}, {16, "ret", api.ErrArg}, {math.MinInt, "", api.ErrArg}, {math.MaxInt, "", api.ErrArg},
		{-1, most + "a", api.ErrArg}, {16, most + "a", api.ErrArg},
		{0, most, api.OK}, {15, most, api.OK}, {0, strings.Repeat("\n", 1<<16), api.OK}, {0, strings.Repeat("a", 1<<16), api.OK},
		{0, most + "a", api.ErrLong}, {15, most + "\n", api.ErrLong}, {0, strings.Repeat("\n", 1<<16+1), api.ErrLong}, {3, strings.Repeat(" ", 1<<20), api.ErrLong},
	} {
		rows, faults, e := source.Parse(x.file, x.text)
		if e != x.want || e != api.OK && len(rows)+len(faults) > 0 {
			t.Errorf("Parse(%d, %.20q of %d): %d rows, %d faults, %d, not %d", x.file, x.text, len(x.text), len(rows), len(faults), e, x.want)
		}
	}
	read(t, 0, most)
	if rows, faults, _ := source.Parse(0, most); len(rows) != 1<<16/5 || len(faults) != 1<<16/5 {
		t.Errorf("%d rows, %d faults", len(rows), len(faults))
	}
}

// P13.2, P13.4: rows as a text, whatever their lines are.
func TestPrint(t *testing.T) {
	for _, x := range []struct {
		l    []api.Row
		want string
	}{
		{nil, ""},
		{[]api.Row{{}}, "\n"},
		{[]api.Row{row(3, inst("ret")), row(3, labelled("a")), row(-1, align(2))}, "ret\na:\n.align 2\n"},
		{[]api.Row{row(math.MaxInt, labelled("a", "b")), row(0, api.Stmt{}), row(1, ascii("a\nb"))}, "a: b:\n\n.ascii \"a\\nb\"\n"},
		{[]api.Row{row(1, inst("b", 8)), row(2, inst("b", -8, 0))}, "b #8\nb #-8, #0\n"},
	} {
		if got, e := source.Print(x.l...); got != x.want || e != api.OK {
			t.Errorf("Print(%s): %q, %d, not %q", short(x.l), got, e, x.want)
		}
		written(t, x.l)
	}
}

// P13.2: statements that may not be, of which the first one's error counts, also ahead of too many bytes; and as many bytes as there may be.
func TestPrintWrong(t *testing.T) {
	most := slices.Repeat([]api.Row{row(1, long(511))}, 128)
	more := slices.Concat(most, []api.Row{{}})
	odd := row(1, api.Stmt{Kind: -1})
	far := row(1, align(13))
	wide := row(1, long(513))
	bare := row(1, inst("b"))
	bare.S.Line.Opers = []api.Oper{{}}
	for _, x := range []struct {
		l    []api.Row
		want api.Errno
	}{
		{most, api.OK}, {most[:127], api.OK}, {slices.Repeat([]api.Row{{}}, 1<<16), api.OK},
		{more, api.ErrLong}, {slices.Concat(more[128:], most), api.ErrLong}, {slices.Repeat(most, 20), api.ErrLong}, {slices.Repeat([]api.Row{{}}, 1<<16+1), api.ErrLong},
		{[]api.Row{odd}, api.ErrStmt}, {[]api.Row{far}, api.ErrRange}, {[]api.Row{wide}, api.ErrLong}, {[]api.Row{bare}, api.ErrOper},
		{[]api.Row{{}, odd, far}, api.ErrStmt}, {[]api.Row{far, odd, {}}, api.ErrRange}, {[]api.Row{wide, odd}, api.ErrLong}, {[]api.Row{bare, far}, api.ErrOper},
		{slices.Concat(most, []api.Row{far}), api.ErrRange}, {slices.Concat(more, []api.Row{far, odd}), api.ErrRange}, {slices.Concat(more, more, []api.Row{odd, wide}), api.ErrStmt},
	} {
		text, e := source.Print(x.l...)
		if e != x.want || e != api.OK && text != "" {
			t.Errorf("Print of %d rows: %.20q, %d, not %d", len(x.l), text, e, x.want)
		}
		written(t, x.l)
	}
	if text, _ := source.Print(most...); len(text) != 1<<16 {
		t.Errorf("%d bytes", len(text))
	}
}

// P13.2: rows whose lines are others, and nothing else: not even their operands become plain; what is answered is nobody's else.
func TestShift(t *testing.T) {
	full := api.Stmt{
		Kind: -5, Labels: []string{"a", ""}, Names: []string{"b", ".", "c"}, Size: 3, Values: []api.Value{{Add: 1, Plus: "d", Minus: "d"}}, Bytes: []byte{0, 9},
		Line: api.Line{Name: "e", Opers: []api.Oper{{Kind: api.OrBar}, {Kind: api.OrTo, N: 7, V: api.Value{Add: 2, Plus: "f", Minus: "g"}}, {Kind: api.OrMem, Amt: -1, Lo: true}}},
	}
	for _, x := range []struct {
		line, by, want int
		s              api.Stmt
	}{
		{1, 0, 1, full}, {1, 4, 5, full}, {5, -4, 1, full}, {0, -1, -1, labelled("a")},
		{1, 2, 3, inst("b", 8)}, {1, 2, 3, api.Stmt{}},
		{math.MaxInt, 1, math.MinInt, full}, {math.MinInt, -1, math.MaxInt, full}, {math.MinInt, math.MinInt, 0, full}, {math.MaxInt, math.MaxInt, -2, full},
	} {
		l := []api.Row{row(x.line, x.s), row(x.line, x.s), {}}
		was := deep(l)
		want := deep([]api.Row{row(x.want, x.s), row(x.want, x.s), row(x.by, api.Stmt{})})
		for range 2 {
			got := source.Shift(l, x.by)
			if !same(got, want) {
				t.Errorf("Shift(%s, %d): %s, not %s", short(l), x.by, short(got), short(want))
			}
			spoil(got[:1])
			if !same(got[1:], want[1:]) {
				t.Errorf("Shift(%s, %d): two rows in one memory", short(l), x.by)
			}
			spoil(got)
		}
		if !same(l, was) {
			t.Errorf("%s was changed: %s", short(was), short(l))
		}
	}
	if l := source.Shift(nil, 3); len(l) > 0 {
		t.Errorf("Shift of nothing: %s", short(l))
	}
}

// P13.2: two lists of rows are the same if each row's line and statement are; nil and empty lists are.
func TestSame(t *testing.T) {
	all := [][]api.Row{
		nil, {{}}, {{}, {}}, {row(1, api.Stmt{})}, {row(-1, api.Stmt{})}, {row(1, labelled("a"))}, {row(1, labelled("b"))}, {row(2, labelled("a"))},
		{row(1, labelled("a")), row(1, labelled("b"))}, {row(1, labelled("b")), row(1, labelled("a"))}, {row(1, labelled("a", "b"))},
		{row(1, inst("b", 8))}, {row(1, inst("b", 9))}, {row(1, inst("b"))}, {row(1, ascii("a"))}, {row(1, align(1))}, {row(1, stmt.Plain(inst("b", 8)))},
		{row(1, labelled("a")), {}}, {{}, row(1, labelled("a"))},
	}
	for i, a := range all {
		for j, b := range all {
			if got := source.Same(a, b); got != (i == j) {
				t.Errorf("Same(%s, %s): %t", short(a), short(b), got)
			}
		}
	}
	if !source.Same([]api.Row{}, nil) || !source.Same([]api.Row{row(1, api.Stmt{Labels: []string{}, Bytes: []byte{}})}, all[3]) {
		t.Error("empty lists are not nil ones")
	}
}

// faults are such of which each file, line and error stands beside each other one.
func faults() []api.Fault {
	var l []api.Fault
	numbers := []int{math.MinInt, -1, 0, 1, math.MaxInt}
	for _, file := range numbers {
		for _, line := range numbers {
			for _, e := range numbers {
				l = append(l, api.Fault{File: file, Line: line, Err: api.Errno(e)})
			}
		}
	}
	return l
}

// P13.3, P13.6: by file, then by line, then by error; what Less tells is an order.
func TestLess(t *testing.T) {
	l := faults()
	for i, a := range l {
		for j, b := range l {
			if got := source.Less(a, b); got != (i < j) || got != ruledLess(a, b) {
				t.Fatalf("Less(%v, %v): %t", a, b, got)
			}
		}
	}
	for _, x := range [][2]api.Fault{
		{{File: 0, Line: 9, Err: 9}, {File: 1, Line: 1, Err: 1}},
		{{File: 1, Line: 2, Err: 9}, {File: 1, Line: 3, Err: 1}},
		{{File: 1, Line: 2, Err: api.ErrStmt}, {File: 1, Line: 2, Err: api.ErrDir}},
	} {
		if !source.Less(x[0], x[1]) || source.Less(x[1], x[0]) {
			t.Errorf("%v is not ahead of %v", x[0], x[1])
		}
	}
}

// P13.3, P13.6: the first one, wherever it stands; none of none.
func TestFirst(t *testing.T) {
	if f, is := source.First(); f != (api.Fault{}) || is {
		t.Errorf("First(): %v, %t", f, is)
	}
	l := faults()
	for i, a := range l {
		for j, b := range l {
			want := l[min(i, j)]
			for _, some := range [][]api.Fault{{a, b}, {a, b, a}, {b, a, b, b}, l[min(i, j) : max(i, j)+1]} {
				if f, is := source.First(some...); f != want || !is {
					t.Fatalf("First(%v): %v, %t, not %v", some, f, is, want)
				}
			}
		}
		if f, is := source.First(a); f != a || !is {
			t.Errorf("First(%v): %v, %t", a, f, is)
		}
	}
	slices.Reverse(l)
	if f, is := source.First(l...); f != l[len(l)-1] || !is {
		t.Errorf("First(%v): %v, %t", l, f, is)
	}
}

// P13.3, P13.5: texts that are cut behind so many lines.
func TestCut(t *testing.T) {
	for _, x := range []struct {
		text        string
		n           int
		front, back string
		ends        int
	}{
		{"", 1, "", "", 0}, {"", 0, "", "", 0}, {"", -1, "", "", 0},
		{"a", 0, "", "a", 0}, {"a", -1, "", "a", 0}, {"a", 1, "a", "", 0}, {"a", 2, "a", "", 0},
		{"\n", 0, "", "\n", 0}, {"\n", 1, "\n", "", 1}, {"\n", 2, "\n", "", 1},
		{"a\nb", 1, "a\n", "b", 1}, {"a\nb", 2, "a\nb", "", 1}, {"a\nb", 3, "a\nb", "", 1}, {"a\nb\n", 2, "a\nb\n", "", 2}, {"a\nb\nc", 1, "a\n", "b\nc", 1},
		{"\n\n\n", 2, "\n\n", "\n", 2}, {"\n\na", 1, "\n", "\na", 1}, {"a\r\nb", 1, "a\r\n", "b", 1},
		{"a\nb", math.MaxInt, "a\nb", "", 1}, {"a\nb", math.MinInt, "", "a\nb", 0},
	} {
		if front, back, ends := source.Cut(x.text, x.n); front != x.front || back != x.back || ends != x.ends {
			t.Errorf("Cut(%q, %d): %q, %q, %d, not %q, %q, %d", x.text, x.n, front, back, ends, x.front, x.back, x.ends)
		}
		cut(t, 0, x.text, x.n)
	}
	text := "a: ret\n\n.x\n // c\n;\nb:\n.align 13\nc: .byte 1"
	for n := range 12 {
		cut(t, 5, text, n-2)
	}
}

// Texts and lists of any length are taken, as fast as they are long.
func TestMuch(t *testing.T) {
	text := strings.Repeat("ab\n\n", 1<<20)
	n := 0
	for number, line := range source.Lines(text) {
		if n++; number != n || len(line) != 2*(n%2) {
			t.Fatalf("line %d: %d %q", n, number, line)
		}
	}
	if n != 1<<21 {
		t.Errorf("%d lines", n)
	}
	if front, back, ends := source.Cut(text, 1<<20); len(front) != len(text)/2 || front+back != text || ends != 1<<20 {
		t.Errorf("%d, %d bytes, %d", len(front), len(back), ends)
	}
	rows := source.Shift(slices.Repeat([]api.Row{row(1, inst("b", 8))}, 1<<18), 1)
	if len(rows) != 1<<18 || !source.Same(rows, source.Shift(rows, 0)) {
		t.Errorf("%d rows", len(rows))
	}
	if _, e := source.Print(rows...); e != api.ErrLong {
		t.Errorf("Print: %d", e)
	}
	if f, is := source.First(slices.Repeat(faults(), 1<<13)...); f != faults()[0] || !is {
		t.Errorf("First: %v, %t", f, is)
	}
}
