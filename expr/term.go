package expr

import (
	"iter"

	"cooper/api"
)

// operator is how many terms a term takes, and its sign; of two terms its group, too: those of a lower one bind more strongly.
type operator struct {
	takes int
	sign  string
	group int
}

// weakest is the group that binds least.
const weakest = 6

// operators are what terms take, by their kinds.
var operators = [...]operator{
	api.ExNum: {takes: 0},
	api.ExSym: {takes: 0},
	api.ExNeg: {takes: 1, sign: "-"},
	api.ExNot: {takes: 1, sign: "~"},
	api.ExMul: {2, "*", 1},
	api.ExDiv: {2, "/", 1},
	api.ExMod: {2, "%", 1},
	api.ExAdd: {2, "+", 2},
	api.ExSub: {2, "-", 2},
	api.ExShl: {2, "<<", 3},
	api.ExShr: {2, ">>", 3},
	api.ExAnd: {2, "&", 4},
	api.ExXor: {2, "^", 5},
	api.ExOr:  {2, "|", 6},
}

// may tells whether a term's fields are such as its kind lets them be.
func may(t api.Term) bool {
	switch {
	case t.Kind == api.ExNum:
		return t.Sym == ""
	case t.Kind == api.ExSym:
		return t.N == 0 && IsSym(t.Sym)
	case t.Kind >= api.ExNeg && t.Kind <= api.ExOr:
		return t.N == 0 && t.Sym == ""
	}
	return false
}

// symbols goes through the symbols among terms.
func symbols(e []api.Term) iter.Seq[string] {
	return func(yield func(string) bool) {
		for _, t := range e {
			if t.Kind == api.ExSym && !yield(t.Sym) {
				return
			}
		}
	}
}

// fold makes something of each of the terms of an expression, out of what was made of those that it takes, and tells the last one's; or the first error.
func fold[T any](e []api.Term, made func(t api.Term, of ...T) (T, api.Errno)) (T, api.Errno) {
	var left []T
	for _, t := range e {
		at := len(left) - operators[t.Kind].takes
		x, wrong := made(t, left[at:]...)
		if wrong != api.OK {
			var none T
			return none, wrong
		}
		left = append(left[:at], x)
	}
	return left[0], api.OK
}
