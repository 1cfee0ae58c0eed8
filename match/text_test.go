package match_test

import (
	"fmt"
	"strings"
	"testing"

	"cooper/api"
	"cooper/lex"
	"cooper/oper"
)

// line is the line of a text: a name, and behind a blank operands.
func line(t *testing.T, s string) api.Line {
	t.Helper()
	name, rest, _ := strings.Cut(s, " ")
	tokens, _, e := lex.Lex(rest)
	if e != api.OK {
		t.Fatalf("Lex(%q): %d", s, e)
	}
	opers, e := oper.List(tokens...)
	if e != api.OK {
		t.Fatalf("List(%q): %d", s, e)
	}
	return api.Line{Name: name, Opers: opers}
}

// text is a line as it is written, if its operands may be.
func text(l api.Line) string {
	s, e := oper.Text(l.Opers...)
	if e != api.OK {
		return shown(l)
	}
	return strings.TrimSpace(l.Name + " " + s)
}

// shown tells all of a line, or of anything else, but no more than can be read.
func shown(x any) string { return fmt.Sprintf("%.3000s", fmt.Sprintf("%+v", x)) }

// key is a text that two lines have in common just if they are the same.
func key(l api.Line) string {
	s := l.Name
	for _, o := range l.Opers {
		s += fmt.Sprintf(" %d %v %v %d %d %d %d %q %q %v %d;", o.Kind, o.R, o.M, o.Mod, o.Amt, o.N, o.V.Add, o.V.Plus, o.V.Minus, o.Lo, o.Mode)
	}
	return s
}

func reg(n int, long bool) api.Oper {
	return api.Oper{Kind: api.OrReg, R: api.Reg{N: n, X: long}}
}

func num(n int64) api.Oper { return api.Oper{Kind: api.OrNum, V: api.Value{Add: n}} }

func to(v api.Value) api.Oper { return api.Oper{Kind: api.OrTo, V: v} }

func mem(mode int, v api.Value) api.Oper {
	return api.Oper{Kind: api.OrMem, R: api.Reg{N: 1, X: true}, Mode: mode, V: v}
}

// sym is a value with a symbol.
func sym(name string, add int64) api.Value { return api.Value{Plus: name, Add: add} }
