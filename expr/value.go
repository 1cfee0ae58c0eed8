package expr

import (
	"slices"
	"strings"

	"cooper/api"
)

// most is by how many places a number is shifted at most.
const most = 63

// copied is a value in memory of its own.
func copied(v api.Value) api.Value {
	return api.Value{Add: v.Add, Plus: strings.Clone(v.Plus), Minus: strings.Clone(v.Minus)}
}

func negative(a api.Value) api.Value {
	return api.Value{Add: -a.Add, Plus: a.Minus, Minus: a.Plus}
}

func sum(a, b api.Value) (api.Value, api.Errno) {
	plus, minus := []string{a.Plus, b.Plus}, []string{a.Minus, b.Minus}
	for i, s := range plus {
		if k := slices.Index(minus, s); k >= 0 {
			plus[i], minus[k] = "", ""
		}
	}
	if !slices.Contains(plus, "") || !slices.Contains(minus, "") {
		return api.Value{}, api.ErrSyms
	}
	return api.Value{Add: a.Add + b.Add, Plus: plus[0] + plus[1], Minus: minus[0] + minus[1]}, api.OK
}

// reckon is what a term comes to, with the values that it takes.
func reckon(t api.Term, of ...api.Value) (api.Value, api.Errno) {
	switch t.Kind {
	case api.ExNum:
		return api.Value{Add: t.N}, api.OK
	case api.ExSym:
		return api.Value{Plus: t.Sym}, api.OK
	case api.ExNeg:
		return negative(of[0]), api.OK
	case api.ExAdd:
		return sum(of[0], of[1])
	case api.ExSub:
		return sum(of[0], negative(of[1]))
	}
	if slices.ContainsFunc(of, hasSymbols) {
		return api.Value{}, api.ErrSyms
	}
	if t.Kind == api.ExNot {
		return api.Value{Add: ^of[0].Add}, api.OK
	}
	n, wrong := number(t.Kind, of[0].Add, of[1].Add)
	return api.Value{Add: n}, wrong
}

func hasSymbols(v api.Value) bool { return v.Plus != "" || v.Minus != "" }

// number is what an operator makes of two numbers.
func number(kind int, a, b int64) (int64, api.Errno) {
	switch kind {
	case api.ExDiv, api.ExMod:
		return divided(kind, a, b)
	case api.ExShl, api.ExShr:
		return shifted(kind, a, b)
	case api.ExMul:
		return a * b, api.OK
	case api.ExAnd:
		return a & b, api.OK
	case api.ExXor:
		return a ^ b, api.OK
	}
	return a | b, api.OK
}

func divided(kind int, a, b int64) (int64, api.Errno) {
	switch {
	case b == 0:
		return 0, api.ErrZero
	case kind == api.ExMod:
		return a % b, api.OK
	}
	return a / b, api.OK
}

func shifted(kind int, a, b int64) (int64, api.Errno) {
	switch {
	case b < 0 || b > most:
		return 0, api.ErrRange
	case kind == api.ExShr:
		return int64(uint64(a) >> b), api.OK
	}
	return a << b, api.OK
}
