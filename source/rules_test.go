package source_test

import (
	"fmt"
	"math"
	"slices"
	"testing"

	"cooper/api"
	"cooper/source"
	"cooper/stmt"
)

// The document's rules, written down a second time, in other ways: a text is gone through byte by byte.

// ruledLines are the lines of a text.
func ruledLines(text string) []string {
	var lines []string
	line := ""
	for i := range len(text) {
		if text[i] == 10 {
			lines, line = append(lines, line), ""
			continue
		}
		line += text[i : i+1]
	}
	if line != "" {
		lines = append(lines, line)
	}
	return lines
}

// ruledParse is what Parse says.
func ruledParse(file int, text string) ([]api.Row, []api.Fault, api.Errno) {
	if file < 0 || file > 15 {
		return nil, nil, api.ErrArg
	}
	if len(text) > 65536 {
		return nil, nil, api.ErrLong
	}
	var rows []api.Row
	var faults []api.Fault
	for i, line := range ruledLines(text) {
		s, e := stmt.Parse(line)
		if e != api.OK {
			faults = append(faults, api.Fault{File: file, Line: i + 1, Err: e})
		} else if s.Kind != 0 || len(s.Labels) != 0 {
			rows = append(rows, api.Row{Line: i + 1, S: s})
		}
	}
	return rows, faults, api.OK
}

// ruledPrint is what Print says.
func ruledPrint(l []api.Row) (string, api.Errno) {
	text := []byte{}
	for _, x := range l {
		line, e := stmt.Print(x.S)
		if e != api.OK {
			return "", e
		}
		text = append(append(text, line...), 10)
	}
	if len(text) > 65536 {
		return "", api.ErrLong
	}
	return string(text), api.OK
}

// ruledCut is what Cut says.
func ruledCut(text string, n int) (string, string, int) {
	found := 0
	for i := range len(text) {
		if found >= n {
			return text[:i], text[i:], found
		}
		if text[i] == 10 {
			found++
		}
	}
	if n < 1 {
		return "", text, 0
	}
	return text, "", found
}

// ruledLess is what Less says.
func ruledLess(a, b api.Fault) bool {
	if a.File != b.File {
		return a.File < b.File
	}
	if a.Line != b.Line {
		return a.Line < b.Line
	}
	return a.Err < b.Err
}

// short is a value as a text that is not too long to be read.
func short(x any) string { return fmt.Sprintf("%.2000s", fmt.Sprintf("%+v", x)) }

// same tells whether two lists of rows are the same.
func same(a, b []api.Row) bool {
	for i := range min(len(a), len(b)) {
		if a[i].Line != b[i].Line || !stmt.Same(a[i].S, b[i].S) {
			return false
		}
	}
	return len(a) == len(b)
}

// deep are rows in memory of their own, string by string as they were.
func deep(l []api.Row) []api.Row {
	var all []api.Row
	for _, x := range l {
		x.S.Labels = slices.Clone(x.S.Labels)
		x.S.Line.Opers = slices.Clone(x.S.Line.Opers)
		x.S.Names = slices.Clone(x.S.Names)
		x.S.Values = slices.Clone(x.S.Values)
		x.S.Bytes = slices.Clone(x.S.Bytes)
		all = append(all, x)
	}
	return all
}

// spoil changes all that the lists of rows hold.
func spoil(l []api.Row) {
	for i := range l {
		s := l[i].S
		for _, names := range [][]string{s.Labels, s.Names} {
			for j := range names {
				names[j] = "spoiled"
			}
		}
		clear(s.Line.Opers)
		clear(s.Values)
		clear(s.Bytes)
		l[i] = api.Row{Line: -1, S: api.Stmt{Kind: -1}}
	}
}

// read holds what is answered of a text against the document, and P13.5: cut anywhere, the parts' rows and faults are all of them.
func read(t *testing.T, file int, text string) {
	t.Helper()
	lines := ruledLines(text)
	var got []string
	for number, line := range source.Lines(text) {
		if got = append(got, line); number != len(got) {
			t.Fatalf("Lines(%.2000q): %d in the place of %d", text, number, len(got))
		}
	}
	if !slices.Equal(got, lines) {
		t.Fatalf("Lines(%.2000q): %.2000q, not %.2000q", text, got, lines)
	}
	want, wantFaults, wantE := ruledParse(file, text)
	rows, faults, e := source.Parse(file, text)
	if !same(rows, want) || !slices.Equal(faults, wantFaults) || e != wantE {
		t.Fatalf("Parse(%d, %.2000q): %s, %v, %d, not %s, %v, %d", file, text, short(rows), faults, e, short(want), wantFaults, wantE)
	}
	for _, n := range []int{math.MinInt, -1, 0, 1, 2, len(lines) / 2, len(lines) - 1, len(lines), len(lines) + 1, math.MaxInt} {
		cut(t, file, text, n)
	}
	if e == api.OK {
		written(t, rows)
	}
}

// cut holds Cut against the document, and P13.5.
func cut(t *testing.T, file int, text string, n int) {
	t.Helper()
	front, back, ends := source.Cut(text, n)
	if wantFront, wantBack, want := ruledCut(text, n); front != wantFront || back != wantBack || ends != want {
		t.Fatalf("Cut(%.2000q, %d): %.1000q, %.1000q, %d, not %.1000q, %.1000q, %d", text, n, front, back, ends, wantFront, wantBack, want)
	}
	rows, faults, e := source.Parse(file, text)
	if e != api.OK {
		return
	}
	frontRows, frontFaults, _ := source.Parse(file, front)
	backRows, backFaults, _ := source.Parse(file, back)
	if got := append(frontRows, source.Shift(backRows, ends)...); !source.Same(got, rows) || !same(got, rows) {
		t.Fatalf("Parse of %.2000q, cut behind %d: %s, not %s", text, ends, short(got), short(rows))
	}
	for _, f := range backFaults {
		f.Line += ends
		frontFaults = append(frontFaults, f)
	}
	if !slices.Equal(frontFaults, faults) {
		t.Fatalf("faults of %.2000q, cut behind %d: %v, not %v", text, ends, frontFaults, faults)
	}
}

// written holds what is answered of rows against the document, and P13.4: Parse of Print are the statements, plain, line by line.
func written(t *testing.T, l []api.Row) {
	t.Helper()
	was := deep(l)
	text, e := source.Print(l...)
	if want, wantE := ruledPrint(l); text != want || e != wantE {
		t.Fatalf("Print(%s): %.2000q, %d, not %.2000q, %d", short(l), text, e, want, wantE)
	}
	var plain []api.Row
	for i, x := range l {
		if x.S.Kind != api.StNone || len(x.S.Labels) > 0 {
			plain = append(plain, api.Row{Line: i + 1, S: stmt.Plain(x.S)})
		}
	}
	if e == api.OK {
		if rows, faults, e := source.Parse(0, text); !same(rows, plain) || len(faults) > 0 || e != api.OK {
			t.Fatalf("Parse(%.2000q): %s, %v, %d, not %s", text, short(rows), faults, e, short(plain))
		}
	}
	for _, by := range []int{0, 1, -1, math.MaxInt, math.MinInt} {
		shifted := source.Shift(l, by)
		if source.Same(shifted, l) != (by == 0 || len(l) == 0) || !source.Same(source.Shift(shifted, -by), l) {
			t.Fatalf("Shift(%s, %d): %s", short(l), by, short(shifted))
		}
		spoil(shifted)
	}
	if !same(l, was) {
		t.Fatalf("%s: changed, it was %s", short(l), short(was))
	}
}
