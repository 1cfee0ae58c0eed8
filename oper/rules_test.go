package oper_test

import (
	"fmt"
	"slices"
	"strconv"
	"strings"
	"testing"

	"cooper/api"
	"cooper/expr"
	"cooper/lex"
	"cooper/names"
	"cooper/oper"
)

// The document's rules, written down a second time, in other ways: the forms are patterns of tokens that are all tried, and it goes wrong where the one that comes furthest does; what may be, and how it is written, is a row of a table.

// form is a pattern of tokens: a sign or lo12 as it stands; R any register, B a base, X and W one of 64 or 32 bits that is added; kinds of shifts; v a value, n one from 0 to 63, p a place, name any other name.
type form struct {
	mode    int
	pattern string
}

var forms = []form{
	{0, "R"}, {0, "R , shift # n"}, {0, "R , extend"}, {0, "R , extend # n"},
	{0, "# v"}, {0, "# v , lsl # n"}, {0, ": lo12 : v"}, {0, "p"}, {0, "name"},
	{api.MmOff, "[ B ]"}, {api.MmOff, "[ B , # v ]"}, {api.MmOff, "[ B , : lo12 : v ]"},
	{api.MmPre, "[ B , # v ] !"}, {api.MmPost, "[ B ] , # v"},
	{api.MmReg, "[ B , X ]"}, {api.MmReg, "[ B , X , lsl # n ]"}, {api.MmReg, "[ B , X , sxtx ]"}, {api.MmReg, "[ B , X , sxtx # n ]"},
	{api.MmReg, "[ B , W , uxtw ]"}, {api.MmReg, "[ B , W , uxtw # n ]"}, {api.MmReg, "[ B , W , sxtw ]"}, {api.MmReg, "[ B , W , sxtw # n ]"},
}

// modNames are shifts and extensions, by their numbers.
var modNames = strings.Fields("- lsl lsr asr ror uxtb uxth uxtw uxtx sxtb sxth sxtw sxtx")

// search are tokens, the operands that they were found to be, and what goes wrong furthest from their beginning; where the last value begins that more tokens may change.
type search struct {
	tokens []api.Token
	found  [][]api.Oper
	far    int
	wrong  api.Errno
	open   int
}

// fail counts what goes wrong if nothing went wrong further on: at one place one operand too many first, and then what is wrong with a value.
func (s *search) fail(at int, e api.Errno) {
	rank := []api.Errno{api.OK, api.ErrOper, api.ErrExpr, api.ErrSyms, api.ErrZero, api.ErrRange, api.ErrDepth, api.ErrLong}
	if at > s.far || at == s.far && slices.Index(rank, e) > slices.Index(rank, s.wrong) {
		s.far, s.wrong = at, e
	}
}

func (s *search) token(at int) api.Token {
	if at == len(s.tokens) {
		return api.Token{}
	}
	return s.tokens[at]
}

func (s *search) is(at int, kind int, text string) bool {
	x := s.token(at)
	return x.Kind == kind && x.Text == text
}

// operands tries all forms of what stands behind those that were found, from a place on.
func (s *search) operands(at int, l []api.Oper) {
	for _, f := range forms {
		base := len(l) > 0 && l[len(l)-1] == api.Oper{Kind: api.OrMem, R: l[len(l)-1].R}
		if base && f.pattern[0] == '#' {
			s.fail(at, api.ErrOper)
			continue
		}
		o, end, ok := s.match(f, at)
		if !ok {
			continue
		}
		if base && f.pattern == "p" && o.Kind == api.OrNum {
			s.fail(at, api.ErrOper)
			continue
		}
		with := append(slices.Clone(l), o)
		switch {
		case end == len(s.tokens):
			s.found = append(s.found, with)
		case !s.is(end, api.TkSign, ","):
			s.fail(end, api.ErrOper)
		case len(with) == 8:
			s.fail(end+1, api.ErrLong)
		default:
			s.operands(end+1, with)
		}
	}
}

// match is the operand of a form from a place on, and where it ends.
func (s *search) match(f form, at int) (api.Oper, int, bool) {
	o := api.Oper{Mode: f.mode}
	for piece := range strings.SplitSeq(f.pattern, " ") {
		size, e := s.piece(piece, at, &o)
		if e != api.OK {
			s.fail(at, e)
			return api.Oper{}, 0, false
		}
		at += size
	}
	if f.mode == api.MmReg && o.Mod == 0 {
		o.Mod, o.Amt = api.ModLsl, -1
	} else if f.mode == api.MmReg && !strings.Contains(f.pattern, "n") {
		o.Amt = -1
	}
	return o, at, true
}

// piece matches one piece of a pattern, and tells how many tokens it has.
func (s *search) piece(piece string, at int, o *api.Oper) (int, api.Errno) {
	switch piece {
	case ",", "#", "!", "]", ":", "[":
		if !s.is(at, api.TkSign, piece) {
			return 0, api.ErrOper
		}
		if piece == "[" {
			o.Kind = api.OrMem
		} else if o.Kind == 0 {
			o.Kind = api.OrNum
		}
		return 1, api.OK
	case "v", "n", "p":
		return s.value(piece, at, o)
	}
	if s.token(at).Kind != api.TkName || !s.word(piece, s.token(at).Text, o) {
		return 0, api.ErrOper
	}
	return 1, api.OK
}

// word matches a piece that is a name.
func (s *search) word(piece, text string, o *api.Oper) bool {
	r, none := names.Reg(text)
	reg := none == api.OK
	mod := slices.Index(modNames, text)
	switch piece {
	case "R":
		o.Kind, o.R = api.OrReg, r
		return reg
	case "B":
		o.R = r
		return reg && r.X && text != "xzr"
	case "X", "W":
		o.M = r
		return reg && !r.SP && r.X == (piece == "X")
	case "shift":
		o.Mod = mod
		return mod >= 1 && mod <= 4
	case "extend":
		o.Mod = mod
		return mod >= 5
	case "lo12":
		o.Lo = true
		return text == piece
	case "name":
		for i, kind := range []int{api.OrCond, api.OrBar, api.OrSys, api.OrPrf, api.OrFld} {
			if n, e := names.Number([]int{api.KdCond, api.KdBar, api.KdSys, api.KdPrf, api.KdField}[i], text); e == api.OK {
				o.Kind, o.N = kind, n
				return true
			}
		}
		return false
	}
	o.Mod = mod
	return text == piece
}

// value matches a piece that is a value.
func (s *search) value(piece string, at int, o *api.Oper) (int, api.Errno) {
	x := s.token(at)
	begins := x.Kind == api.TkNum || x.Kind == api.TkName && expr.IsSym(x.Text) || x.Kind == api.TkSign && x.Text != "" && strings.Contains("(-~", x.Text)
	if piece == "p" && (!begins || x.Kind == api.TkName && names.Word(x.Text)) {
		return 0, api.ErrOper
	}
	terms, size, e := expr.Parse(s.tokens[at:]...)
	if e == api.OK && at+size == len(s.tokens) || e != api.OK && mended(s.tokens[at:]) {
		s.open = max(s.open, at)
	}
	if e != api.OK {
		return 0, e
	}
	v, e := expr.Eval(terms...)
	if e != api.OK {
		return 0, e
	}
	number := v == api.Value{Add: v.Add}
	switch {
	case piece == "n" && (!number || v.Add < 0 || v.Add > 63), piece == "p" && names.Word(v.Plus):
		return 0, api.ErrOper
	case piece == "n":
		o.Amt = int(v.Add)
		return size, api.OK
	case piece == "p" && number:
		o.Kind = api.OrNum
	case piece == "p":
		o.Kind = api.OrTo
	}
	o.V = v
	return size, api.OK
}

// mended tells whether tokens that begin no expression could do it with others behind them.
func mended(l []api.Token) bool {
	var ends []api.Token
	for _, x := range l {
		if x.Kind == api.TkSign && x.Text == "(" {
			ends = append(ends, api.Token{Kind: api.TkSign, Text: ")"})
		}
	}
	_, _, e := expr.Parse(slices.Concat(l, ends)...)
	_, _, f := expr.Parse(slices.Concat(l, []api.Token{{Kind: api.TkNum}}, ends)...)
	return e == api.OK || f == api.OK
}

// ruledList is what List says, and whether tokens behind these could be operands with them.
func ruledList(l []api.Token) ([]api.Oper, api.Errno, bool) {
	if len(l) == 0 {
		return nil, api.OK, true
	}
	s := search{tokens: l, open: -1}
	s.operands(0, nil)
	switch len(s.found) {
	case 0:
		return nil, s.wrong, s.far == len(l) || s.open >= s.far
	case 1:
		return s.found[0], api.OK, true
	}
	panic("tokens of more than one kind")
}

// row is what may be: of which registers, how it is changed, up to which N, whether it has a value.
type row struct {
	kind, mode int
	r, m       string
	mods       string
	least      int
	n          int64
	v, lo      bool
}

var rows = []row{
	{kind: api.OrReg, r: "any"},
	{kind: api.OrReg, r: "any", mods: "lsl lsr asr ror uxtb uxth uxtw uxtx sxtb sxth sxtw sxtx"},
	{kind: api.OrNum, v: true},
	{kind: api.OrNum, v: true, mods: "lsl"},
	{kind: api.OrNum, v: true, lo: true},
	{kind: api.OrTo, v: true},
	{kind: api.OrCond, n: 15},
	{kind: api.OrBar, n: 15},
	{kind: api.OrSys, n: 32767},
	{kind: api.OrPrf, n: 31},
	{kind: api.OrFld, n: 5},
	{kind: api.OrMem, r: "base", v: true},
	{kind: api.OrMem, r: "base", v: true, lo: true},
	{kind: api.OrMem, r: "base", v: true, mode: api.MmPre},
	{kind: api.OrMem, r: "base", v: true, mode: api.MmPost},
	{kind: api.OrMem, r: "base", m: "x", mode: api.MmReg, mods: "lsl sxtx", least: -1},
	{kind: api.OrMem, r: "base", m: "w", mode: api.MmReg, mods: "uxtw sxtw", least: -1},
}

// regOf tells whether a register is of a kind, none being a zero struct.
func regOf(kind string, r api.Reg) bool {
	s, e := names.RegName(r)
	switch kind {
	case "":
		return r == api.Reg{}
	case "any":
		return e == api.OK
	case "base":
		return s == "sp" || s != "xzr" && strings.HasPrefix(s, "x")
	}
	return s != "wsp" && strings.HasPrefix(s, kind)
}

// has tells whether an operand is of a row, but for what its value's symbols are.
func (x row) has(o api.Oper) bool {
	changed := o.Mod == 0 && o.Amt == 0
	if x.mods != "" {
		changed = o.Mod > 0 && o.Mod < len(modNames) && slices.Contains(strings.Fields(x.mods), modNames[o.Mod]) && o.Amt >= x.least && o.Amt < 64
	}
	return o.Kind == x.kind && o.Mode == x.mode && regOf(x.r, o.R) && regOf(x.m, o.M) && changed && o.N >= 0 && o.N <= x.n && (x.v || o.V == api.Value{}) && o.Lo == x.lo
}

// ruledCheck is what Check says.
func ruledCheck(o api.Oper) api.Errno {
	if !slices.ContainsFunc(rows, func(x row) bool { return x.has(o) }) {
		return api.ErrOper
	}
	s, e := expr.Print(o.V)
	if e != api.OK {
		return e
	}
	if l, _, _ := lex.Lex(s); o.Kind == api.OrTo && len(l) > 0 && l[0].Kind == api.TkName && names.Word(l[0].Text) {
		return api.ErrOper
	}
	return api.OK
}

// tokens are lex's tokens of a line.
func tokens(t *testing.T, line string) []api.Token {
	t.Helper()
	l, _, e := lex.Lex(line)
	if e != api.OK {
		t.Fatalf("Lex(%q): %d", line, e)
	}
	return l
}

// nameOr is a number's name, or a # and the number.
func nameOr(kind int, n int64) string {
	if s, e := names.Name(kind, n); e == api.OK {
		return s
	}
	return "#" + strconv.FormatInt(n, 10)
}

// ruledOne is the text of an operand that may be: the parts that its pattern names.
func ruledOne(o api.Oper) string {
	base, _ := names.RegName(o.R)
	index, _ := names.RegName(o.M)
	v, _ := expr.Print(o.V)
	pattern := map[int]string{
		api.OrReg: "Rm", api.OrNum: "Vm", api.OrTo: "v", api.OrMem: "[R, V]",
		api.OrCond: nameOr(api.KdCond, o.N), api.OrBar: nameOr(api.KdBar, o.N), api.OrSys: nameOr(api.KdSys, o.N), api.OrPrf: nameOr(api.KdPrf, o.N), api.OrFld: nameOr(api.KdField, o.N),
	}[o.Kind]
	if o.Kind == api.OrMem {
		pattern += []string{"", "!", "", ""}[o.Mode]
		pattern = []string{pattern, pattern, "[R], V", "[R, Mm]"}[o.Mode]
	}
	if pattern == "[R, V]" && !o.Lo && v == "0" {
		pattern = "[R]"
	}
	if pattern == "v" && (o.V == api.Value{Add: o.V.Add}) {
		pattern = "V"
	}
	if o.Kind != api.OrReg && o.Kind != api.OrNum && o.Kind != api.OrTo && o.Kind != api.OrMem {
		return pattern
	}
	low := "#"
	if o.Lo {
		low = ":lo12:"
	}
	return strings.NewReplacer("R", base, "M", index, "V", low+v, "v", v, "m", ruledMod(o)).Replace(pattern)
}

func ruledMod(o api.Oper) string {
	if o.Mod == 0 {
		return ""
	}
	s := ", " + modNames[o.Mod]
	amount := " #" + strconv.Itoa(o.Amt)
	switch {
	case o.Kind == api.OrMem && o.Amt == -1 && o.Mod == api.ModLsl:
		return ""
	case o.Kind == api.OrMem && o.Amt == -1, o.Kind == api.OrReg && o.Mod > api.ModRor && o.Amt == 0:
		return s
	}
	return s + amount
}

// ruledText is what Text says.
func ruledText(l []api.Oper) (string, api.Errno) {
	var texts []string
	for _, o := range l {
		if e := ruledCheck(o); e != api.OK {
			return "", e
		}
		texts = append(texts, ruledOne(o))
	}
	if len(l) > 8 {
		return "", api.ErrLong
	}
	for i, s := range texts {
		// A base alone has neither a blank nor anything behind the ].
		if i > 0 && s[0] == '#' && texts[i-1][0] == '[' && !strings.Contains(texts[i-1], " ") && strings.HasSuffix(texts[i-1], "]") {
			return "", api.ErrOper
		}
	}
	return strings.Join(texts, ", "), api.OK
}

// ruledPlain is what Plain says.
func ruledPlain(o api.Oper) api.Oper {
	if ruledCheck(o) != api.OK {
		return o
	}
	s := ruledOne(o)
	switch {
	case o.Kind == api.OrTo && s[0] == '#':
		return api.Oper{Kind: api.OrNum, V: o.V}
	case (o.Kind == api.OrBar || o.Kind == api.OrPrf) && s[0] == '#':
		return api.Oper{Kind: api.OrNum, V: api.Value{Add: o.N}}
	case o.Kind == api.OrFld && s == "spsel":
		return api.Oper{Kind: api.OrSys, N: 16912}
	}
	return o
}

// short is a value as a text that is not too long to be read.
func short(x any) string { return fmt.Sprintf("%.2000s", fmt.Sprintf("%+v", x)) }

// checked holds what Check and Plain answer of an operand against the document.
func checked(t *testing.T, o api.Oper) {
	t.Helper()
	if e, want := oper.Check(o), ruledCheck(o); e != want {
		t.Fatalf("Check(%s): %d, not %d", short(o), e, want)
	}
	if got, want := oper.Plain(o), ruledPlain(o); got != want {
		t.Fatalf("Plain(%s): %s, not %s", short(o), short(got), short(want))
	}
}

// written holds what Text answers of operands against the document, and P10.5: List of its tokens are the operands' Plain.
func written(t *testing.T, l []api.Oper) {
	t.Helper()
	want, wantE := ruledText(l)
	s, e := oper.Text(l...)
	if s != want || e != wantE {
		t.Fatalf("Text(%s): %.2000q, %d, not %.2000q, %d", short(l), s, e, want, wantE)
	}
	x, _, long := lex.Lex(s)
	if e != api.OK || long != api.OK {
		return
	}
	var plain []api.Oper
	for _, o := range l {
		plain = append(plain, oper.Plain(o))
	}
	if got, e := oper.List(x...); !slices.Equal(got, plain) || e != api.OK {
		t.Fatalf("List(%q): %+v, %d, not %+v", s, got, e, plain)
	}
}

// held holds what List answers of tokens against the document, and P10.5, P10.6: Check takes it, and its text, read again, is told the same. It tells whether tokens behind these could be operands with them.
func held(t *testing.T, l []api.Token) bool {
	t.Helper()
	want, wantE, more := ruledList(l)
	got, e := oper.List(l...)
	if !slices.Equal(got, want) || e != wantE || e != api.OK && got != nil {
		t.Fatalf("List(%s): %s, %d, not %s, %d", short(l), short(got), e, short(want), wantE)
	}
	if e != api.OK {
		return more
	}
	for _, o := range got {
		if e := oper.Check(o); e != api.OK {
			t.Fatalf("Check(%+v): %d", o, e)
		}
		if p := oper.Plain(o); p != o {
			t.Fatalf("Plain(%+v): %+v", o, p)
		}
	}
	if _, e := oper.Text(got...); e != api.OK {
		t.Fatalf("Text(%+v): %d", got, e)
	}
	written(t, got)
	return more
}
