package match

import (
	"slices"
	"strings"

	"cooper/api"
)

const (
	noHole  = 0  // no kind of holes
	nowhere = -1 // the number of no operand
)

// placeHole is the kind of hole that a place leaves.
func placeHole(x api.Inst) int {
	switch x.Op {
	case api.OpB:
		if x.S {
			return api.HoCall26
		}
		return api.HoB26
	case api.OpBCond, api.OpCb:
		return api.HoCond19
	case api.OpTb:
		return api.HoTst14
	case api.OpLdLit:
		return api.HoLd19
	case api.OpAdr:
		if x.X {
			return api.HoAdrp21
		}
		return api.HoAdr21
	}
	return noHole
}

// lowHole is the kind of hole that a value's lowest bits leave.
func lowHole(x api.Inst) int {
	switch {
	case x.Op == api.OpLdImm:
		return api.HoLd12
	case x.Op == api.OpAddImm && x.B == 0 && !x.S && x.C == 0:
		return api.HoAdd12
	}
	return noHole
}

func hasSymbols(v api.Value) bool { return v.Plus != "" || v.Minus != "" }

// isOpen tells whether an operand is one whose symbols may be filled in.
func isOpen(o api.Oper) bool { return o.Kind == api.OrTo || o.Lo }

// symbolic is the number of the operand whose value is filled in, if there is one.
func symbolic(l api.Line) int {
	has := func(o api.Oper) bool { return o.Lo || hasSymbols(o.V) }
	at := slices.IndexFunc(l.Opers, has)
	if at == nowhere {
		return nowhere
	}
	if !isOpen(l.Opers[at]) || slices.ContainsFunc(l.Opers[at+1:], has) {
		panic(misfit{api.ErrSymbol})
	}
	return at
}

// zeroed is a line with 0 in the place of what is filled into an operand.
func zeroed(l api.Line, at int) api.Line {
	l.Opers = slices.Clone(l.Opers)
	o := &l.Opers[at]
	if o.Kind == api.OrTo {
		*o = api.Oper{Kind: api.OrNum}
	}
	o.V, o.Lo = api.Value{}, false
	return l
}

// bound is a value with a symbol's value in the symbol's place.
func bound(v api.Value, name string, n int64) api.Value {
	v = copied(v)
	// An empty name is none: a value has it where there is no symbol.
	if name == "" {
		return v
	}
	if v.Plus == name {
		v.Plus = ""
		v.Add += n
	}
	if v.Minus == name {
		v.Minus = ""
		v.Add -= n
	}
	return v
}

// copied is a value in memory of its own.
func copied(v api.Value) api.Value {
	return api.Value{Add: v.Add, Plus: strings.Clone(v.Plus), Minus: strings.Clone(v.Minus)}
}
