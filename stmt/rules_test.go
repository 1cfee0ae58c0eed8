package stmt_test

import (
	"fmt"
	"regexp"
	"slices"
	"strconv"
	"strings"
	"testing"

	"cooper/api"
	"cooper/expr"
	"cooper/lex"
	"cooper/oper"
	"cooper/stmt"
)

// The document's rules, written down a second time, in other ways: labels and the name are read off the line's bytes, and what belongs to a directive is parted at the signs , ahead of looking at it.

const nameForm = `[a-zA-Z_.$][a-zA-Z_.$0-9]*`

var (
	labelForm = regexp.MustCompile(`^[ \t]*(` + nameForm + `)[ \t]*:`)
	headForm  = regexp.MustCompile(`^[ \t]*(` + nameForm + `)`)
	emptyForm = regexp.MustCompile(`^[ \t]*(//.*)?$`)
)

// form is a directive: its kind and size, and what belongs to it, parted by , : n a name, v a value, p a power, q quotes; + of the last one at least one.
type form struct {
	name       string
	kind, size int
	parts      string
}

var forms = []form{
	{".text", api.StSection, 0, ""}, {".data", api.StSection, 0, ""}, {".section", api.StSection, 0, "n"},
	{".global", api.StGlobal, 0, "n+"}, {".align", api.StAlign, 0, "p"},
	{".byte", api.StData, 1, "v+"}, {".word", api.StData, 4, "v+"}, {".quad", api.StData, 8, "v+"},
	{".ascii", api.StAscii, 0, "q"}, {".equ", api.StEqu, 0, "nv"},
}

// ruledParse is what Parse says.
func ruledParse(line string) (api.Stmt, api.Errno) {
	var s api.Stmt
	if _, _, e := lex.Lex(line); e != api.OK {
		return api.Stmt{}, e
	}
	for {
		m := labelForm.FindStringSubmatch(line)
		if m == nil {
			break
		}
		if m[1] == "." {
			return api.Stmt{}, api.ErrStmt
		}
		if s.Labels = append(s.Labels, m[1]); len(s.Labels) > 8 {
			return api.Stmt{}, api.ErrLong
		}
		line = line[len(m[0]):]
	}
	if emptyForm.MatchString(line) {
		return s, api.OK
	}
	m := headForm.FindStringSubmatch(line)
	if m == nil || m[1] == "." {
		return api.Stmt{}, api.ErrStmt
	}
	l, _, _ := lex.Lex(line[len(m[0]):])
	var e api.Errno
	if m[1][0] == '.' {
		e = ruledDirective(&s, m[1], l)
	} else {
		s.Kind, s.Line.Name = api.StInst, m[1]
		s.Line.Opers, e = oper.List(l...)
	}
	if e != api.OK {
		return api.Stmt{}, e
	}
	return s, api.OK
}

// ruledDirective puts what tokens tell of a directive into a statement.
func ruledDirective(s *api.Stmt, name string, l []api.Token) api.Errno {
	at := slices.IndexFunc(forms, func(f form) bool { return f.name == name })
	if at < 0 {
		return api.ErrDir
	}
	f := forms[at]
	s.Kind, s.Size = f.kind, f.size
	if f.parts == "" {
		s.Names = []string{name}
		if len(l) > 0 {
			return api.ErrOpers
		}
		return api.OK
	}
	parts, many := strings.CutSuffix(f.parts, "+")
	pieces := parted(l)
	for i, piece := range pieces {
		switch {
		case many && i == 64:
			return api.ErrLong
		case !many && i == len(parts):
			return api.ErrOpers
		}
		if e := ruledPart(s, parts[min(i, len(parts)-1)], piece); e != api.OK {
			return e
		}
	}
	if len(pieces) < len(parts) {
		return api.ErrOpers
	}
	return api.OK
}

// parted are the tokens between two signs , and ahead of the first, and behind the last one.
func parted(l []api.Token) [][]api.Token {
	all := [][]api.Token{nil}
	for _, x := range l {
		if x.Kind == api.TkSign && x.Text == "," {
			all = append(all, nil)
			continue
		}
		all[len(all)-1] = append(all[len(all)-1], x)
	}
	return all
}

// ruledPart puts a name, a value or bytes into a statement.
func ruledPart(s *api.Stmt, part byte, l []api.Token) api.Errno {
	if part == 'v' || part == 'p' {
		terms, n, e := expr.Parse(l...)
		if e != api.OK {
			return e
		}
		v, e := expr.Eval(terms...)
		if e != api.OK {
			return e
		}
		if part == 'p' && (v.Plus+v.Minus != "" || v.Add < 0 || v.Add > 12) {
			return api.ErrRange
		}
		s.Values = append(s.Values, v)
		l = l[n-1:]
	} else if len(l) == 0 || l[0].Kind != map[byte]int{'n': api.TkName, 'q': api.TkText}[part] {
		return api.ErrOpers
	}
	if len(l) > 1 {
		return api.ErrOpers
	}
	switch part {
	case 'n':
		s.Names = append(s.Names, l[0].Text)
	case 'q':
		s.Bytes = []byte(l[0].Text)
	}
	return api.OK
}

// use is what the statements of a kind use, and how many names and values they may have.
type use struct {
	line, size, bytes bool
	names, values     []int
}

var (
	none = []int{0, 0}
	lone = []int{1, 1}
	many = []int{1, 64}
	uses = map[int]use{
		api.StNone: {names: none, values: none}, api.StInst: {line: true, names: none, values: none},
		api.StSection: {names: lone, values: none}, api.StGlobal: {names: many, values: none},
		api.StAlign: {names: none, values: lone}, api.StData: {size: true, names: none, values: many},
		api.StAscii: {bytes: true, names: none, values: none}, api.StEqu: {names: lone, values: lone},
	}
)

// ruledCheck is what Check says.
func ruledCheck(s api.Stmt) api.Errno {
	u, is := uses[s.Kind]
	for _, x := range s.Labels {
		is = is && lex.Name(x) && x != "."
	}
	is = is && (u.line || s.Line.Name == "" && len(s.Line.Opers) == 0) && (u.size || s.Size == 0) && (u.bytes || len(s.Bytes) == 0)
	is = is && (u.names[1] > 0 || len(s.Names) == 0) && (u.values[1] > 0 || len(s.Values) == 0)
	if !is {
		return api.ErrStmt
	}
	if len(s.Labels) > 8 || len(s.Names) > 64 || len(s.Values) > 64 {
		return api.ErrLong
	}
	is = len(s.Names) >= u.names[0] && len(s.Names) <= u.names[1] && len(s.Values) >= u.values[0] && len(s.Values) <= u.values[1]
	for _, x := range s.Names {
		is = is && lex.Name(x)
	}
	is = is && (!u.size || s.Size == 1 || s.Size == 4 || s.Size == 8)
	is = is && (!u.line || lex.Name(s.Line.Name) && s.Line.Name[0] != '.')
	if !is {
		return api.ErrStmt
	}
	for _, v := range s.Values {
		if s.Kind == api.StAlign && (v.Plus+v.Minus != "" || v.Add < 0 || v.Add > 12) {
			return api.ErrRange
		}
		if _, e := expr.Print(v); e != api.OK {
			return e
		}
	}
	opers, e := oper.Text(s.Line.Opers...)
	if e == api.OK && opers != "" && opers[0] == ':' {
		e = api.ErrStmt
	}
	return e
}

// ruledPrint is what Print says.
func ruledPrint(s api.Stmt) (string, api.Errno) {
	if e := ruledCheck(s); e != api.OK {
		return "", e
	}
	line := ""
	for _, x := range s.Labels {
		line += x + ": "
	}
	all := slices.Clone(s.Names)
	for _, v := range s.Values {
		x, _ := expr.Print(v)
		all = append(all, x)
	}
	if s.Kind == api.StAscii {
		all = append(all, lex.Quote(string(s.Bytes)))
	}
	if s.Kind == api.StInst && len(s.Line.Opers) > 0 {
		x, _ := oper.Text(s.Line.Opers...)
		all = append(all, x)
	}
	head := map[int]string{
		api.StInst: s.Line.Name, api.StSection: ".section", api.StGlobal: ".global", api.StAlign: ".align",
		api.StData: map[int]string{1: ".byte", 4: ".word", 8: ".quad"}[s.Size], api.StAscii: ".ascii", api.StEqu: ".equ",
	}[s.Kind]
	line = strings.TrimSpace(line + head + " " + strings.Join(all, ", "))
	line = strings.TrimSuffix(line, ".section .text") + map[bool]string{true: ".text"}[strings.HasSuffix(line, ".section .text")]
	line = strings.TrimSuffix(line, ".section .data") + map[bool]string{true: ".data"}[strings.HasSuffix(line, ".section .data")]
	if len(line) > 512 {
		return "", api.ErrLong
	}
	return line, api.OK
}

// short is a value as a text that is not too long to be read.
func short(x any) string { return fmt.Sprintf("%.2000s", fmt.Sprintf("%+v", x)) }

// key is a statement as a text that no other one has.
func key(s api.Stmt) string {
	var b strings.Builder
	put := func(l ...string) {
		b.WriteString(strconv.Itoa(len(l)) + ":")
		for _, x := range l {
			b.WriteString(strconv.Quote(x))
		}
	}
	put(s.Labels...)
	put(s.Names...)
	put(s.Line.Name, string(s.Bytes))
	fmt.Fprint(&b, s.Kind, s.Size, len(s.Line.Opers), len(s.Values))
	for _, o := range s.Line.Opers {
		fmt.Fprintf(&b, "%q", fmt.Sprintf("%#v", o))
	}
	for _, v := range s.Values {
		fmt.Fprintf(&b, "%q", fmt.Sprintf("%#v", v))
	}
	return b.String()
}

// plain is what Plain says.
func plain(s api.Stmt) api.Stmt {
	var l []api.Oper
	for _, o := range s.Line.Opers {
		l = append(l, oper.Plain(o))
	}
	s.Line.Opers = l
	return s
}

// checked holds what is answered of a statement against the document, and P11.4: Parse of Print is Plain.
func checked(t *testing.T, s api.Stmt) {
	t.Helper()
	was := key(s)
	if e, want := stmt.Check(s), ruledCheck(s); e != want {
		t.Fatalf("Check(%s): %d, not %d", short(s), e, want)
	}
	line, e := stmt.Print(s)
	if want, wantE := ruledPrint(s); line != want || e != wantE {
		t.Fatalf("Print(%s): %.2000q, %d, not %.2000q, %d", short(s), line, e, want, wantE)
	}
	p := stmt.Plain(s)
	if key(p) != key(plain(s)) {
		t.Fatalf("Plain(%s): %s", short(s), short(p))
	}
	want := slices.Clone(s.Labels)
	if s.Kind == api.StEqu {
		want = append(want, s.Names[:min(1, len(s.Names))]...)
	}
	if got := slices.Collect(stmt.Names(s)); !slices.Equal(got, want) {
		t.Fatalf("Names(%s): %.2000q, not %.2000q", short(s), got, want)
	}
	if got, f := stmt.Parse(line); e == api.OK && (f != api.OK || key(got) != key(p)) {
		t.Fatalf("Parse(%q): %s, %d, not %s", line, short(got), f, short(p))
	}
	if key(s) != was || !stmt.Same(s, s) || stmt.Same(s, p) != (key(p) == was) {
		t.Fatalf("%s: changed, or not the same as it is", short(s))
	}
}

// held holds what Parse answers of a line against the document, and P11.5: Check takes it, and Print of it, read again, is Plain of it; and P11.6.
func held(t *testing.T, line string) {
	t.Helper()
	want, wantE := ruledParse(line)
	got, e := stmt.Parse(line)
	if key(got) != key(want) || e != wantE {
		t.Fatalf("Parse(%q): %s, %d, not %s, %d", line, short(got), e, short(want), wantE)
	}
	for _, blanks := range []string{" \t" + line, line + "\t ", " " + line + " // a: b", line + "\t//"} {
		if got, f := stmt.Parse(blanks); len(blanks) <= 512 && (f != e || key(got) != key(want)) {
			t.Fatalf("Parse(%q): %s, %d, not %s, %d", blanks, short(got), f, short(want), e)
		}
	}
	if e != api.OK {
		return
	}
	if e := stmt.Check(got); e != api.OK {
		t.Fatalf("Check(%s): %d, of %q", short(got), e, line)
	}
	checked(t, got)
}
