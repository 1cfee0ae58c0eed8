package expr_test

import (
	"math"
	"math/rand/v2"
	"slices"
	"testing"

	"cooper/api"
	"cooper/expr"
)

func random() *rand.Rand { return rand.New(rand.NewPCG(9, 1)) }

func one[T any](r *rand.Rand, l ...T) T { return l[r.IntN(len(l))] }

func drawnNumber(r *rand.Rand) int64 {
	return one(r, 0, 1, 2, 3, 8, 63, 64, -1, -2, math.MaxInt64, math.MinInt64, int64(r.Uint64()>>r.IntN(64)), int64(r.Uint64()))
}

// drawn is an expression with so many operators at most.
func drawn(r *rand.Rand, most int) []api.Term {
	if most == 0 || r.IntN(8) == 0 {
		if r.IntN(3) > 0 {
			return []api.Term{num(drawnNumber(r))}
		}
		return []api.Term{sym(one(r, "a", "b", "c", ".", "x0"))}
	}
	if r.IntN(5) == 0 {
		return append(drawn(r, most-1), ops(one(r, api.ExNeg, api.ExNot))...)
	}
	kind := one(r, api.ExAdd, api.ExSub, api.ExMul+r.IntN(10))
	left := r.IntN(most)
	return slices.Concat(drawn(r, left), drawn(r, most-1-left), ops(kind))
}

func drawnToken(r *rand.Rand) api.Token {
	switch r.IntN(8) {
	case 0, 1, 2:
		return api.Token{Kind: api.TkNum, N: uint64(drawnNumber(r))}
	case 3:
		return api.Token{Kind: api.TkName, Text: one(r, "a", "b", ".")}
	case 4:
		return api.Token{Kind: api.TkSign, Text: one(r, ",", "]", "=", "#")}
	}
	return api.Token{Kind: api.TkSign, Text: one(r, "(", ")", "-", "~", "*", "/", "%", "+", "-", "<<", ">>", "&", "^", "|")}
}

// bare are the tokens of an expression with no more parentheses than there must be, and some.
func bare(r *rand.Rand, l []api.Term) []api.Token {
	sign := func(s string) api.Token { return api.Token{Kind: api.TkSign, Text: s} }
	last := l[len(l)-1]
	var x []api.Token
	switch p := parts(l); {
	case last.Kind == api.ExNum:
		x = []api.Token{{Kind: api.TkNum, N: uint64(last.N)}}
	case last.Kind == api.ExSym:
		x = []api.Token{{Kind: api.TkName, Text: last.Sym}}
	case len(p) == 1:
		x = append([]api.Token{sign(one(r, "-", "~"))}, bare(r, p[0])...)
	default:
		x = append(append(bare(r, p[0]), sign(one(r, "*", "/", "%", "+", "-", "<<", ">>", "&", "^", "|"))), bare(r, p[1])...)
	}
	if r.IntN(4) == 0 {
		return append(append([]api.Token{sign("(")}, x...), sign(")"))
	}
	return x
}

// P9.1, P9.7: all rows of up to five of these tokens.
func TestParseShort(t *testing.T) {
	var all []api.Token
	for _, s := range []string{"1", "a", "(", ")", "-", "~", "+", "*", "<<", "|", ",", "\"a\""} {
		all = append(all, tokens(t, s)...)
	}
	var each func(l []api.Token, left int)
	each = func(l []api.Token, left int) {
		held(t, l)
		if left == 0 {
			return
		}
		for _, x := range all {
			each(append(l, x), left-1)
		}
	}
	each(make([]api.Token, 0, 5), 5)
}

// P9.1: each two and each three operators of two beside each other.
func TestParseGroups(t *testing.T) {
	for a := range kinds {
		for b := range kinds {
			for c := range kinds {
				for _, s := range []string{"p" + a + "q" + b + "r" + c + "s", "-p" + a + "~q" + b + "(r" + c + "s)", "p" + a + "-(q" + b + "r)" + c + "~s"} {
					held(t, tokens(t, s))
				}
			}
		}
	}
}

// P9.1, P9.7: drawn rows of tokens: any, and such as are expressions, and one of these with a token changed, put in or left out.
func TestParseDrawn(t *testing.T) {
	r := random()
	for range 40000 {
		var l []api.Token
		for range r.IntN(12) {
			l = append(l, drawnToken(r))
		}
		held(t, l)
		l = bare(r, drawn(r, r.IntN(20)))
		held(t, l)
		at := r.IntN(len(l))
		held(t, l[:at])
		held(t, slices.Delete(slices.Clone(l), at, at+1))
		held(t, slices.Insert(slices.Clone(l), at, drawnToken(r)))
		l[at] = drawnToken(r)
		held(t, l)
	}
	for range 1000 {
		l := bare(r, drawn(r, 100+r.IntN(60)))
		held(t, l)
		l[r.IntN(len(l))] = drawnToken(r)
		held(t, l)
	}
}

// P9.2 to P9.5: drawn expressions, and such with a term changed, put in or left out.
func TestDrawn(t *testing.T) {
	r := random()
	others := append(wrongTerms(), num(1), num(1), sym("a"), ops(api.ExNeg)[0], ops(api.ExAdd)[0])
	for i := range 30000 {
		l := drawn(r, r.IntN(12))
		if i%100 == 0 {
			l = drawn(r, 110+r.IntN(40))
		}
		checked(t, l)
		if expr.Check(l...) == api.OK {
			evaled(t, l)
			written(t, l)
		}
		at := r.IntN(len(l))
		checked(t, l[:at])
		checked(t, slices.Delete(slices.Clone(l), at, at+1))
		x := one(r, others...)
		checked(t, slices.Insert(slices.Clone(l), at, x))
		l[at] = x
		checked(t, l)
	}
}

// P9.3, P9.5: sums of few symbols, of which many come to a value.
func TestSums(t *testing.T) {
	r := random()
	for range 30000 {
		l := []api.Term{sym(one(r, "a", "b"))}
		for range r.IntN(6) {
			x := one(r, sym("a"), sym("b"), sym("c"), num(drawnNumber(r)))
			l = append(append(l, x), ops(one(r, api.ExAdd, api.ExSub))...)
			if r.IntN(4) == 0 {
				l = append(l, ops(api.ExNeg)...)
			}
		}
		evaled(t, l)
		written(t, l)
	}
}

// P9.5: values that may be, there and back.
func TestValueAndBack(t *testing.T) {
	r := random()
	for _, p := range []string{"", "a", "b", ".", "$x"} {
		for _, m := range []string{"", "a", "b", ".", "$x"} {
			if p == m && p != "" {
				continue
			}
			for _, n := range []int64{0, 1, -1, math.MaxInt64, math.MinInt64, math.MinInt64 + 1} {
				printed(t, api.Value{Add: n, Plus: p, Minus: m})
			}
			for range 50 {
				printed(t, api.Value{Add: drawnNumber(r), Plus: p, Minus: m})
			}
		}
	}
}

// P9.6: of numbers alone Add is as int64 adds, in any order.
func TestAddNumbers(t *testing.T) {
	r := random()
	for range 20000 {
		a, b, c := drawnNumber(r), drawnNumber(r), drawnNumber(r)
		x, y, z := api.Value{Add: a}, api.Value{Add: b}, api.Value{Add: c}
		xy, e := expr.Add(x, y)
		yz, f := expr.Add(y, z)
		if xy != (api.Value{Add: a + b}) || e != api.OK || f != api.OK {
			t.Fatalf("Add(%d, %d): %+v, %d, %d", a, b, xy, e, f)
		}
		left, e := expr.Add(xy, z)
		right, f := expr.Add(x, yz)
		if left != right || left.Add != a+b+c || e != api.OK || f != api.OK {
			t.Fatalf("Add of %d, %d and %d: %+v, %+v, %d, %d", a, b, c, left, right, e, f)
		}
	}
}
