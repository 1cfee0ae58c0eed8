package oper_test

import (
	"math"
	"math/rand/v2"
	"slices"
	"testing"

	"cooper/api"
	"cooper/lex"
	"cooper/oper"
)

func random() *rand.Rand { return rand.New(rand.NewPCG(10, 1)) }

func one[T any](r *rand.Rand, l ...T) T { return l[r.IntN(len(l))] }

func drawnNumber(r *rand.Rand) int64 {
	return one(r, 0, 0, 1, 2, 4, 63, 64, -1, math.MaxInt64, math.MinInt64, int64(r.Uint64()>>r.IntN(64)))
}

func drawnValue(r *rand.Rand) api.Value {
	v := api.Value{Add: drawnNumber(r)}
	if r.IntN(2) == 0 {
		v.Plus = one(r, "", "a", ".", "$x", "lo12", "X0", "x0", "eq", "lsl", "nop", "s3_3_c4_c2_0")
		v.Minus = one(r, "", "", "b", "x1", "lt", "Sp")
	}
	return v
}

func drawnReg(r *rand.Rand) api.Reg {
	x := api.Reg{N: one(r, 0, 1, 30, 31, r.IntN(32)), X: r.IntN(2) == 0}
	x.SP = x.N == 31 && r.IntN(2) == 0
	return x
}

// drawnOper is an operand that may be.
func drawnOper(r *rand.Rand) api.Oper {
	for {
		x := one(r, rows...)
		o := api.Oper{Kind: x.kind, Mode: x.mode, Lo: x.lo, N: r.Int64N(x.n + 1)}
		if x.r != "" {
			o.R = drawnReg(r)
		}
		if x.m != "" {
			o.M = drawnReg(r)
		}
		if x.mods != "" {
			o.Mod, o.Amt = r.IntN(13), one(r, x.least, 0, 1, 63, r.IntN(64))
		}
		if x.v {
			o.V = drawnValue(r)
		}
		if ruledCheck(o) == api.OK {
			return o
		}
	}
}

func drawnToken(r *rand.Rand) api.Token {
	switch r.IntN(7) {
	case 0:
		return api.Token{Kind: api.TkNum, N: uint64(drawnNumber(r))}
	case 1, 2:
		return api.Token{Kind: api.TkName, Text: one(r, "x0", "w1", "sp", "wsp", "xzr", "wzr", "a", ".", "lo12", "lsl", "ror", "uxtw", "uxtx", "sxtx", "eq", "sy", "nzcv", "spsel", "pldl1keep", "pan", "nop")}
	case 3:
		return api.Token{Kind: api.TkSign, Text: one(r, "(", ")", "-", "~", "*", "/", "+", "<<", "=")}
	}
	return api.Token{Kind: api.TkSign, Text: one(r, ",", ",", "#", "#", "[", "]", "!", ":")}
}

// P10.3, P10.5, P10.6: of some tokens all rows that may go on, and each of these with each of the tokens behind it; some behind six operands.
func TestListShort(t *testing.T) {
	for _, x := range []struct {
		ahead, tokens string
		most          int
	}{
		{"", "x1 w2 sp , # [ ] ! : lo12 1 a lsl uxtw", 6},
		{"", "x1 , # [ ] 1 + a", 8},
		{"", "x1 w2 , [ ] # 3 lsl sxtw sxtx", 8},
		{"", "x1 , lsl # [ ] : lo12 a 0", 8},
		{"", "# 1 , lsl - ( ) a / 0 *", 6},
		{"", "x30 wzr eq sy nzcv spsel pldl1keep pan nop asr , [ ] .", 7},
		{"x1, [x1], a, #1, eq, :lo12:1,", "x1 , # [ ] 1 lsl", 9},
		{"[x1, #0], [x1, #1], [x1], a, x2, lsl #3, [x1],", "x1 , # [ ] 1 lsl", 9},
	} {
		all := tokens(t, x.tokens)
		var each func(l []api.Token, left int)
		each = func(l []api.Token, left int) {
			if more := held(t, l); left == 0 || !more {
				return
			}
			for _, x := range all {
				each(append(slices.Clip(l), x), left-1)
			}
		}
		each(tokens(t, x.ahead), x.most)
	}
}

// P10.3, P10.5, P10.6: drawn rows of tokens: any, and the texts of operands with a token changed, put in or left out.
func TestListDrawn(t *testing.T) {
	r := random()
	for range 12000 {
		var l []api.Token
		for range r.IntN(10) {
			l = append(l, drawnToken(r))
		}
		held(t, l)
		var opers []api.Oper
		for range r.IntN(9) {
			opers = append(opers, drawnOper(r))
		}
		s, e := oper.Text(opers...)
		if l, _, _ = lex.Lex(s); e != api.OK || len(l) == 0 {
			continue
		}
		held(t, l)
		at := r.IntN(len(l))
		held(t, l[:at])
		held(t, slices.Delete(slices.Clone(l), at, at+1))
		held(t, slices.Insert(slices.Clone(l), at, drawnToken(r)))
		held(t, slices.Concat(l, []api.Token{{Kind: api.TkSign, Text: ","}}, l))
		l[at] = drawnToken(r)
		held(t, l)
	}
}

// P10.1, P10.2: drawn operands, and such with fields changed.
func TestCheckDrawn(t *testing.T) {
	r := random()
	for range 100000 {
		o := drawnOper(r)
		checked(t, o)
		for range 1 + r.IntN(2) {
			o = changed(r, o)
		}
		checked(t, o)
		written(t, []api.Oper{o})
	}
}

// changed is an operand with a field that is another one.
func changed(r *rand.Rand, o api.Oper) api.Oper {
	number := one(r, -2, -1, 0, 1, 2, 3, 4, 5, 6, 7, 8, 9, 10, 11, 12, 13, 15, 16, 31, 32, 63, 64, math.MaxInt, math.MinInt, 256)
	switch r.IntN(9) {
	case 0:
		o.Kind = number
	case 1:
		o.R = one(r, drawnReg(r), api.Reg{N: number, X: r.IntN(2) == 0, SP: r.IntN(2) == 0})
	case 2:
		o.M = one(r, drawnReg(r), api.Reg{N: number, X: r.IntN(2) == 0, SP: r.IntN(2) == 0})
	case 3:
		o.Mod = number
	case 4:
		o.Amt = number
	case 5:
		o.N = one(r, int64(number), 1<<15, 1<<15-1, math.MinInt64, 1<<32)
	case 6:
		o.V = one(r, drawnValue(r), api.Value{Plus: "a b"}, api.Value{Minus: "1"}, api.Value{Plus: "a", Minus: "a"}, api.Value{Plus: "x0", Minus: "x0"}, api.Value{})
	case 7:
		o.Lo = !o.Lo
	case 8:
		o.Mode = number
	}
	return o
}

// P10.2, P10.5: drawn operands as a text, some with one that may not be, some with too many.
func TestTextDrawn(t *testing.T) {
	r := random()
	for range 50000 {
		var l []api.Oper
		for range r.IntN(10) {
			o := drawnOper(r)
			if r.IntN(20) == 0 {
				o = changed(r, o)
			}
			if r.IntN(4) == 0 {
				o = one(r, api.Oper{Kind: api.OrMem, R: api.Reg{N: 1, X: true}}, api.Oper{Kind: api.OrNum}, api.Oper{Kind: api.OrTo}, api.Oper{Kind: api.OrBar, N: 4})
			}
			l = append(l, o)
		}
		written(t, l)
	}
}
