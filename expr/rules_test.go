package expr_test

import (
	"maps"
	"math/big"
	"slices"
	"strconv"
	"strings"
	"testing"

	"cooper/api"
	"cooper/expr"
	"cooper/lex"
)

// The document's rules, written down a second time, in other ways: by a look at one token after the other, by parting at what binds least, from the end, with numbers of any size.

// groups are the signs of operators of two, the ones that bind most first.
var groups = []string{"* / %", "+ -", "<< >>", "&", "^", "|"}

var kinds = map[string]int{"*": api.ExMul, "/": api.ExDiv, "%": api.ExMod, "+": api.ExAdd, "-": api.ExSub, "<<": api.ExShl, ">>": api.ExShr, "&": api.ExAnd, "^": api.ExXor, "|": api.ExOr}

// shape is a token as a text: its sign, 1 for an operand, "" for any other.
func shape(x api.Token) string {
	switch x.Kind {
	case api.TkSign:
		return x.Text
	case api.TkNum:
		return "1"
	case api.TkName:
		if l, _, e := lex.Lex(x.Text); e == api.OK && len(l) == 1 && l[0].Kind == api.TkName && l[0].Text == x.Text {
			return "1"
		}
	}
	return ""
}

// ruledSize is how many tokens the expression has, or what is wrong first, from the left.
func ruledSize(l []api.Token) (int, api.Errno) {
	open, count, behind := "", 0, false
	for i, x := range append(slices.Clone(l), api.Token{}) {
		s := shape(x)
		switch {
		case !behind && s == "1":
			if count++; count > 256 {
				return 0, api.ErrDepth
			}
			open, behind = strings.TrimRight(open, "-~"), true
		case !behind && (s == "(" || s == "-" || s == "~"):
			if open += s; len(open) > 64 {
				return 0, api.ErrDepth
			}
			if s != "(" {
				count++
			}
		case behind && kinds[s] != 0:
			count++
			behind = false
		case behind && s == ")" && open != "":
			open = strings.TrimRight(strings.TrimSuffix(open, "("), "-~")
		case behind && open == "":
			return i, api.OK
		default:
			return 0, api.ErrExpr
		}
	}
	panic("no end")
}

// ruledTerms are the terms of tokens that are an expression: parted at the last one of the operators that bind least.
func ruledTerms(l []api.Token) []api.Term {
	for _, group := range slices.Backward(groups) {
		depth := 0
		for i, x := range slices.Backward(l) {
			switch s := shape(x); {
			case s == ")":
				depth++
			case s == "(":
				depth--
			case i > 0 && depth == 0 && slices.Contains(strings.Fields(group), s) && (shape(l[i-1]) == "1" || shape(l[i-1]) == ")"):
				return slices.Concat(ruledTerms(l[:i]), ruledTerms(l[i+1:]), ops(kinds[s]))
			}
		}
	}
	switch shape(l[0]) {
	case "-":
		return append(ruledTerms(l[1:]), ops(api.ExNeg)...)
	case "~":
		return append(ruledTerms(l[1:]), ops(api.ExNot)...)
	case "(":
		return ruledTerms(l[1 : len(l)-1])
	}
	if l[0].Kind == api.TkName {
		return []api.Term{sym(l[0].Text)}
	}
	n := new(big.Int).SetUint64(l[0].N)
	return []api.Term{num(wrapped(n))}
}

// wrapped is a number as one of 64 bits with a sign.
func wrapped(n *big.Int) int64 {
	full := new(big.Int).Lsh(big.NewInt(1), 64)
	n = new(big.Int).Mod(n, full)
	if n.BitLen() == 64 {
		n.Sub(n, full)
	}
	return n.Int64()
}

// ruledCheck is what Check says: each operator finds what it takes, from the end.
func ruledCheck(l []api.Term) api.Errno {
	for _, x := range l {
		name := x.Sym != "" && shape(api.Token{Kind: api.TkName, Text: x.Sym}) == "1"
		switch {
		case x.Kind < 1 || x.Kind > 14, x.Kind == api.ExNum && x.Sym != "", x.Kind == api.ExSym && (x.N != 0 || !name), x.Kind > api.ExSym && x != ops(x.Kind)[0]:
			return api.ErrExpr
		}
	}
	// How many are wanted by those behind.
	want := 1
	for _, x := range slices.Backward(l) {
		if want == 0 {
			return api.ErrExpr
		}
		switch {
		case x.Kind <= api.ExSym:
			want--
		case x.Kind > api.ExNot:
			want++
		}
	}
	switch {
	case want > 0:
		return api.ErrExpr
	case len(l) > 256:
		return api.ErrDepth
	}
	return api.OK
}

// parts are the expressions that the last term of an expression takes.
func parts(l []api.Term) [][]api.Term {
	last := l[len(l)-1].Kind
	if last <= api.ExSym {
		return nil
	}
	l = l[:len(l)-1]
	if last <= api.ExNot {
		return [][]api.Term{l}
	}
	for i := len(l) - 1; ; i-- {
		if e := ruledCheck(l[i:]); e != api.ErrExpr {
			return [][]api.Term{l[:i], l[i:]}
		}
	}
}

// amount is a number and how often which symbol is added.
type amount struct {
	n    *big.Int
	syms map[string]int
}

// plus is a and b as often as times says, and whether that has no more than one symbol more, and no more than one less.
func (a amount) plus(b amount, times int) (amount, bool) {
	s := amount{new(big.Int).Add(a.n, new(big.Int).Mul(b.n, big.NewInt(int64(times)))), maps.Clone(a.syms)}
	more, less := 0, 0
	for name, n := range b.syms {
		s.syms[name] += n * times
	}
	for name, n := range s.syms {
		switch {
		case n == 0 || name == "":
			delete(s.syms, name)
		case n > 0:
			more += n
		default:
			less -= n
		}
	}
	return s, more < 2 && less < 2
}

func (a amount) value() api.Value {
	v := api.Value{Add: wrapped(a.n)}
	for name, n := range a.syms {
		if n > 0 {
			v.Plus = name
		} else {
			v.Minus = name
		}
	}
	return v
}

// ruledAdd is what Add says.
func ruledAdd(a, b api.Value) (api.Value, api.Errno) {
	s := amount{new(big.Int), map[string]int{}}
	ok := true
	for _, v := range []api.Value{a, b} {
		x := amount{big.NewInt(v.Add), map[string]int{v.Plus: 1}}
		if v.Minus == v.Plus {
			x.syms[v.Plus] = 0
		} else {
			x.syms[v.Minus] = -1
		}
		s, ok = s.plus(x, 1)
	}
	if !ok {
		return api.Value{}, api.ErrSyms
	}
	return s.value(), api.OK
}

// ruledAmount is what an expression comes to: the error of what its last term takes counts first, from the left.
func ruledAmount(l []api.Term) (amount, api.Errno) {
	var of []amount
	for _, p := range parts(l) {
		a, e := ruledAmount(p)
		if e != api.OK {
			return amount{}, e
		}
		of = append(of, a)
	}
	none, last, ok := amount{new(big.Int), map[string]int{}}, l[len(l)-1], true
	switch last.Kind {
	case api.ExNum:
		return amount{big.NewInt(last.N), none.syms}, api.OK
	case api.ExSym:
		return amount{none.n, map[string]int{last.Sym: 1}}, api.OK
	case api.ExNeg:
		a, _ := none.plus(of[0], -1)
		return a, api.OK
	case api.ExAdd:
		none, ok = of[0].plus(of[1], 1)
	case api.ExSub:
		none, ok = of[0].plus(of[1], -1)
	default:
		for _, a := range of {
			ok = ok && len(a.syms) == 0
		}
		if ok {
			return ruledNumber(last.Kind, of)
		}
	}
	if !ok {
		return amount{}, api.ErrSyms
	}
	return none, api.OK
}

func ruledNumber(kind int, of []amount) (amount, api.Errno) {
	n, a := new(big.Int), big.NewInt(wrapped(of[0].n))
	if kind == api.ExNot {
		return amount{n.Not(a), map[string]int{}}, api.OK
	}
	b := big.NewInt(wrapped(of[1].n))
	switch kind {
	case api.ExDiv, api.ExMod:
		if b.Sign() == 0 {
			return amount{}, api.ErrZero
		}
		rest := new(big.Int)
		n.QuoRem(a, b, rest)
		if kind == api.ExMod {
			n = rest
		}
	case api.ExShl, api.ExShr:
		if b.Sign() < 0 || b.Cmp(big.NewInt(63)) > 0 {
			return amount{}, api.ErrRange
		}
		if kind == api.ExShl {
			n.Lsh(a, uint(b.Int64()))
		} else {
			n.Rsh(new(big.Int).And(a, new(big.Int).SetUint64(1<<64-1)), uint(b.Int64()))
		}
	case api.ExMul:
		n.Mul(a, b)
	case api.ExAnd:
		n.And(a, b)
	case api.ExXor:
		n.Xor(a, b)
	case api.ExOr:
		n.Or(a, b)
	}
	return amount{n, map[string]int{}}, api.OK
}

// ruledText is an expression as a text, however deep.
func ruledText(l []api.Term) string {
	last := l[len(l)-1]
	if p := parts(l); len(p) == 2 {
		for s, k := range kinds {
			if k == last.Kind {
				return "(" + ruledText(p[0]) + s + ruledText(p[1]) + ")"
			}
		}
	}
	switch {
	case last.Kind == api.ExNeg:
		return "(-" + ruledText(l[:len(l)-1]) + ")"
	case last.Kind == api.ExNot:
		return "(~" + ruledText(l[:len(l)-1]) + ")"
	case last.Kind == api.ExSym:
		return last.Sym
	case last.N >= 0:
		return strconv.FormatInt(last.N, 10)
	}
	digits := ""
	for i := range 16 {
		digits = string("0123456789abcdef"[last.N>>(4*i)&15]) + digits
	}
	return "0x" + digits
}

// depth is how many ( of a text stand within each other.
func depth(s string) int {
	open, most := 0, 0
	for _, c := range s {
		open += strings.Count("(", string(c)) - strings.Count(")", string(c))
		most = max(most, open)
	}
	return most
}

// held holds what Parse answers of tokens against the document, and P9.7: what it answers Check takes.
func held(t *testing.T, l []api.Token) {
	t.Helper()
	size, wantE := ruledSize(l)
	var want []api.Term
	if wantE == api.OK {
		want = ruledTerms(l[:size])
	}
	got, n, e := expr.Parse(l...)
	if !slices.Equal(got, want) || n != size || e != wantE || e != api.OK && got != nil {
		t.Fatalf("Parse(%.2000v): %+v, %d, %d, not %+v, %d, %d", l, got, n, e, want, size, wantE)
	}
	if e == api.OK && expr.Check(got...) != api.OK {
		t.Fatalf("Check(%+v): %d", got, expr.Check(got...))
	}
}

// checked holds what Check answers against the document.
func checked(t *testing.T, l []api.Term) {
	t.Helper()
	if e, want := expr.Check(l...), ruledCheck(l); e != want {
		t.Fatalf("Check(%.2000v): %d, not %d", l, e, want)
	}
}

// evaled holds what Eval answers of an expression against the document, and P9.7: what it answers Print takes.
func evaled(t *testing.T, l []api.Term) {
	t.Helper()
	var want api.Value
	a, wantE := ruledAmount(l)
	if wantE == api.OK {
		want = a.value()
	}
	v, e := expr.Eval(l...)
	if v != want || e != wantE {
		t.Fatalf("Eval(%+v): %+v, %d, not %+v, %d", l, v, e, want, wantE)
	}
	if e == api.OK {
		printed(t, v)
	}
}

// printed is P9.5 of a value: Eval of Parse of Print of it is the value.
func printed(t *testing.T, v api.Value) {
	t.Helper()
	s, e := expr.Print(v)
	if e != api.OK {
		t.Fatalf("Print(%+v): %d", v, e)
	}
	if len(s) > 512 {
		return
	}
	l := tokens(t, s)
	x, n, e := expr.Parse(l...)
	if got, f := expr.Eval(x...); got != v || n != len(l) || e != api.OK || f != api.OK {
		t.Fatalf("Eval of Parse(%q): %+v, %d, %d, %d, not %+v", s, got, n, e, f, v)
	}
}

// written holds what Text answers of an expression against the document, and P9.5: Parse of its tokens is the expression.
func written(t *testing.T, l []api.Term) {
	t.Helper()
	want, wantE := ruledText(l), api.OK
	if depth(want) > 64 {
		want, wantE = "", api.ErrDepth
	}
	s, e := expr.Text(l...)
	if s != want || e != wantE {
		t.Fatalf("Text(%+v): %q, %d, not %q, %d", l, s, e, want, wantE)
	}
	if e != api.OK || len(s) > 512 {
		return
	}
	x := tokens(t, s)
	// A - or ~ counts to the depth, and so does the ( ahead of it.
	if _, deep := ruledSize(x); deep == api.ErrDepth {
		return
	}
	if got, n, e := expr.Parse(x...); !slices.Equal(got, l) || n != len(x) || e != api.OK {
		t.Fatalf("Parse(%q): %+v, %d, %d, not %+v", s, got, n, e, l)
	}
}
