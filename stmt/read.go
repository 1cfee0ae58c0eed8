package stmt

import (
	"cooper/api"
	"cooper/expr"
	"cooper/oper"
)

// fault is with what a reader bails out of a line.
type fault struct{ wrong api.Errno }

func bail(wrong api.Errno) { panic(fault{wrong}) }

// reader reads a statement off tokens, from the left.
type reader struct {
	tokens []api.Token // what is left of them
	s      api.Stmt
}

func (r *reader) statement() {
	for r.comes(0, api.TkName) && r.comes(1, api.TkSign) && r.tokens[1].Text == colon {
		r.label()
	}
	if len(r.tokens) == 0 {
		return
	}
	name := r.take(api.TkName, api.ErrStmt)
	switch {
	case name == here:
		bail(api.ErrStmt)
	case isDirective(name):
		r.directive(name)
	default:
		r.instruction(name)
	}
}

// label reads a name with the sign behind it.
func (r *reader) label() {
	name := r.tokens[0].Text
	switch {
	case name == here:
		bail(api.ErrStmt)
	case len(r.s.Labels) == api.MaxLabels:
		bail(api.ErrLong)
	}
	r.s.Labels = append(r.s.Labels, name)
	r.tokens = r.tokens[2:]
}

func (r *reader) instruction(name string) {
	opers, wrong := oper.List(r.tokens...)
	if wrong != api.OK {
		bail(wrong)
	}
	if _, wrong := oper.Text(opers...); wrong != api.OK {
		bail(wrong)
	}
	r.s.Kind, r.s.Line = api.StInst, api.Line{Name: name, Opers: opers}
}

// directive reads what stands behind a directive's name.
func (r *reader) directive(name string) {
	r.s.Size = sizeOf(name)
	switch {
	case isOwn(name):
		r.s.Names = []string{name}
		r.needs(api.StSection)
	case name == sectionName:
		r.needs(api.StSection, r.name)
	case name == globalName:
		r.needs(api.StGlobal, r.names)
	case name == alignName:
		r.needs(api.StAlign, r.power)
	case r.s.Size != 0:
		r.needs(api.StData, r.values)
	case name == asciiName:
		r.needs(api.StAscii, r.bytes)
	case name == equName:
		r.needs(api.StEqu, r.name, r.comma, r.value)
	default:
		bail(api.ErrDir)
	}
}

// needs reads what a directive of a kind needs: each by one of these, and nothing behind them.
func (r *reader) needs(kind int, each ...func()) {
	r.s.Kind = kind
	for _, read := range each {
		read()
	}
	if len(r.tokens) > 0 {
		bail(api.ErrOpers)
	}
}

func (r *reader) names() { r.list(r.name) }

func (r *reader) values() { r.list(r.value) }

// list reads as many as stand there, each by one.
func (r *reader) list(one func()) {
	one()
	for n := 1; len(r.tokens) > 0; n++ {
		r.comma()
		if n == api.MaxValues {
			bail(api.ErrLong)
		}
		one()
	}
}

func (r *reader) name() {
	r.s.Names = append(r.s.Names, r.take(api.TkName, api.ErrOpers))
}

func (r *reader) comma() {
	if r.take(api.TkSign, api.ErrOpers) != comma {
		bail(api.ErrOpers)
	}
}

func (r *reader) bytes() { r.s.Bytes = []byte(r.take(api.TkText, api.ErrOpers)) }

func (r *reader) value() {
	terms, size, wrong := expr.Parse(r.tokens...)
	if wrong != api.OK {
		bail(wrong)
	}
	v, wrong := expr.Eval(terms...)
	if wrong != api.OK {
		bail(wrong)
	}
	r.s.Values = append(r.s.Values, v)
	r.tokens = r.tokens[size:]
}

// power reads to what power of two is aligned.
func (r *reader) power() {
	r.value()
	if !isPower(r.s.Values[0]) {
		bail(api.ErrRange)
	}
}

// comes tells whether a token of a kind comes behind as many.
func (r *reader) comes(behind, kind int) bool {
	return behind < len(r.tokens) && r.tokens[behind].Kind == kind
}

// take goes past a token of a kind, whose text it tells.
func (r *reader) take(kind int, otherwise api.Errno) string {
	if !r.comes(0, kind) {
		bail(otherwise)
	}
	s := r.tokens[0].Text
	r.tokens = r.tokens[1:]
	return s
}
