package oper

import (
	"cooper/api"
	"cooper/expr"
	"cooper/names"
)

// stray is with what a reader bails out at a token from which on there are no operands.
type stray struct{}

// broken is with what it bails out where a value begins that is none.
type broken struct{ wrong api.Errno }

// surplus is with what it bails out where one operand too many begins.
type surplus struct{}

// reader reads operands off tokens, from the left.
type reader struct {
	tokens []api.Token
	at     int
}

func (r *reader) all() []api.Oper {
	var l []api.Oper
	for r.at < len(r.tokens) {
		if len(l) == 0 {
			l = append(l, r.operand(false))
			continue
		}
		r.need(comma)
		if len(l) == api.MaxOpers {
			panic(surplus{})
		}
		l = append(l, r.operand(isBase(l[len(l)-1])))
	}
	return l
}

// operand reads one that may stand, or not, behind a base alone.
func (r *reader) operand(behindBase bool) api.Oper {
	switch t := r.token(0); {
	case isSign(t, hash) && !behindBase:
		return r.number()
	case isSign(t, colon):
		return r.low(api.Oper{Kind: api.OrNum})
	case isSign(t, opening):
		return r.memory()
	case t.Kind == api.TkName && names.Word(t.Text):
		return r.named()
	case beginsValue(t):
		return r.place(behindBase)
	}
	panic(stray{})
}

// number reads a number, and how it is shifted.
func (r *reader) number() api.Oper {
	r.need(hash)
	return r.shifted(api.Oper{Kind: api.OrNum, V: r.value()}, api.ModLsl)
}

// low reads the value of an operand of which only the lowest bits count.
func (r *reader) low(o api.Oper) api.Oper {
	r.need(colon)
	if t := r.token(0); t.Kind != api.TkName || t.Text != low {
		panic(stray{})
	}
	r.at++
	r.need(colon)
	o.V, o.Lo = r.value(), true
	return o
}

// named reads an operand that begins with a reserved name.
func (r *reader) named() api.Oper {
	if m, none := r.register(); none == api.OK {
		return r.shifted(api.Oper{Kind: api.OrReg, R: m}, api.ModSxtx)
	}
	o, ok := ofName(r.token(0).Text)
	if !ok {
		panic(stray{})
	}
	r.at++
	return o
}

// place reads a value without a sign ahead.
func (r *reader) place(behindBase bool) api.Oper {
	v := r.value()
	switch {
	case !isNumber(v) && !names.Word(v.Plus):
		return api.Oper{Kind: api.OrTo, V: v}
	case isNumber(v) && !behindBase:
		return number(v.Add)
	}
	panic(stray{})
}

// shifted reads how an operand is shifted or extended, perhaps, by nothing behind last.
func (r *reader) shifted(o api.Oper, last int) api.Oper {
	mod := modOf(r.token(1))
	if !isSign(r.token(0), comma) || mod == api.ModNone || mod > last {
		return o
	}
	r.at += 2
	o.Mod = mod
	if mod < api.ModUxtb || isSign(r.token(0), hash) {
		o.Amt = r.amount()
	}
	return o
}

func (r *reader) memory() api.Oper {
	r.need(opening)
	o := api.Oper{Kind: api.OrMem, R: r.base()}
	if r.takes(closing) {
		return r.post(o)
	}
	r.need(comma)
	switch t := r.token(0); {
	case isSign(t, hash):
		return r.offset(o)
	case isSign(t, colon):
		o = r.low(o)
	default:
		o = r.indexed(o)
	}
	r.need(closing)
	return o
}

// post reads what is added to a base behind the access, perhaps.
func (r *reader) post(o api.Oper) api.Oper {
	if isSign(r.token(0), comma) && isSign(r.token(1), hash) {
		r.at += 2
		o.Mode, o.V = api.MmPost, r.value()
	}
	return o
}

// offset reads a number that is added to a base, and whether the base is changed.
func (r *reader) offset(o api.Oper) api.Oper {
	r.need(hash)
	o.V = r.value()
	r.need(closing)
	if r.takes(mark) {
		o.Mode = api.MmPre
	}
	return o
}

// indexed reads a register that is added to a base, and how it is changed.
func (r *reader) indexed(o api.Oper) api.Oper {
	m, none := r.register()
	if none != api.OK || !isIndexRegister(m) {
		panic(stray{})
	}
	o.Mode, o.M, o.Mod, o.Amt = api.MmReg, m, api.ModLsl, unshifted
	if m.X && !isSign(r.token(0), comma) {
		return o
	}
	r.need(comma)
	if o.Mod = modOf(r.token(0)); !isIndex(m, o.Mod) {
		panic(stray{})
	}
	r.at++
	if o.Mod == api.ModLsl || isSign(r.token(0), hash) {
		o.Amt = r.amount()
	}
	return o
}

// base reads the register where memory begins.
func (r *reader) base() api.Reg {
	b, none := r.register()
	if none != api.OK || !isBaseRegister(b) {
		panic(stray{})
	}
	return b
}

// amount reads by how much is shifted.
func (r *reader) amount() int {
	r.need(hash)
	v := r.value()
	if !isNumber(v) || !isFrom0(v.Add, mostShift) {
		panic(stray{})
	}
	return int(v.Add)
}

// value reads an expression, and what it comes to.
func (r *reader) value() api.Value {
	terms, size, wrong := expr.Parse(r.tokens[r.at:]...)
	if wrong != api.OK {
		panic(broken{wrong})
	}
	v, wrong := expr.Eval(terms...)
	if wrong != api.OK {
		panic(broken{wrong})
	}
	r.at += size
	return v
}

// register reads a register's name, if one comes.
func (r *reader) register() (api.Reg, api.Errno) {
	t := r.token(0)
	if t.Kind != api.TkName {
		return api.Reg{}, api.ErrName
	}
	m, none := names.Reg(t.Text)
	if none == api.OK {
		r.at++
	}
	return m, none
}

// token is the one behind as many that come, or none.
func (r *reader) token(behind int) api.Token {
	if r.at+behind >= len(r.tokens) {
		return api.Token{}
	}
	return r.tokens[r.at+behind]
}

// takes goes past a sign, if it comes.
func (r *reader) takes(sign string) bool {
	if !isSign(r.token(0), sign) {
		return false
	}
	r.at++
	return true
}

func (r *reader) need(sign string) {
	if !r.takes(sign) {
		panic(stray{})
	}
}

func isSign(t api.Token, sign string) bool { return t.Kind == api.TkSign && t.Text == sign }

// beginsValue tells whether there are expressions that begin with a token.
func beginsValue(t api.Token) bool {
	switch t.Kind {
	case api.TkNum:
		return true
	case api.TkName:
		return expr.IsSym(t.Text)
	}
	return isSign(t, "(") || isSign(t, "-") || isSign(t, "~")
}

// modOf is the shift, or extension, whose name a token is.
func modOf(t api.Token) int {
	if t.Kind != api.TkName {
		return api.ModNone
	}
	n, _ := names.Number(api.KdMod, t.Text)
	return int(n)
}
