package expr

import (
	"strings"

	"cooper/api"
)

const (
	opening = "("
	closing = ")"
)

// fault is with what a parser bails out.
type fault struct{ wrong api.Errno }

func bail(wrong api.Errno) { panic(fault{wrong}) }

// caught is what is wrong, of a panic: one that is not a parser's own goes on.
func caught(r any) api.Errno {
	f, ok := r.(fault)
	if !ok {
		panic(r)
	}
	return f.wrong
}

// parser reads an expression off tokens, from the left.
type parser struct {
	tokens []api.Token
	at     int
	terms  []api.Term
	count  int // of terms, with the operators that wait for what they take
	open   int
}

// next is the token that comes, or none.
func (p *parser) next() api.Token {
	if p.at == len(p.tokens) {
		return api.Token{}
	}
	return p.tokens[p.at]
}

// row reads operands, and between them operators that bind no weaker than those of a group.
func (p *parser) row(group int) {
	p.operand()
	for {
		kind, ok := operatorOf(p.next(), 2)
		if !ok || operators[kind].group > group {
			return
		}
		p.at++
		p.count++
		p.row(operators[kind].group - 1)
		p.terms = append(p.terms, api.Term{Kind: kind})
	}
}

func (p *parser) operand() { readerOf(p.next())(p) }

// readerOf is how an operand is read that begins with a token.
func readerOf(t api.Token) func(*parser) {
	_, sign := operatorOf(t, 1)
	switch {
	case t.Kind == api.TkNum:
		return (*parser).number
	case t.Kind == api.TkName && IsSym(t.Text):
		return (*parser).symbol
	case isSign(t, opening):
		return (*parser).within
	case sign:
		return (*parser).behind
	}
	return (*parser).none
}

func (p *parser) number() { p.leaf(api.Term{Kind: api.ExNum, N: int64(p.next().N)}) }

func (p *parser) symbol() {
	p.leaf(api.Term{Kind: api.ExSym, Sym: strings.Clone(p.next().Text)})
}

func (p *parser) none() { bail(api.ErrExpr) }

// leaf goes past the token of a number or a symbol.
func (p *parser) leaf(t api.Term) {
	// Operators are not held against the limit when they come: one without an operand behind it is no expression's.
	if p.count++; p.count > api.MaxTerms {
		bail(api.ErrDepth)
	}
	p.at++
	p.terms = append(p.terms, t)
}

// within reads an operand that stands in parentheses.
func (p *parser) within() {
	p.enter()
	p.row(weakest)
	if !isSign(p.next(), closing) {
		bail(api.ErrExpr)
	}
	p.at++
	p.open--
}

// behind reads an operand that stands behind the sign of an operator of one.
func (p *parser) behind() {
	kind, _ := operatorOf(p.next(), 1)
	p.enter()
	p.count++
	p.operand()
	p.open--
	p.terms = append(p.terms, api.Term{Kind: kind})
}

// enter goes past a token that is open from here on.
func (p *parser) enter() {
	if p.open++; p.open > api.MaxDepth {
		bail(api.ErrDepth)
	}
	p.at++
}

// operatorOf is the operator of so many terms whose sign a token is.
func operatorOf(t api.Token, takes int) (int, bool) {
	for kind, o := range operators {
		if o.takes == takes && isSign(t, o.sign) {
			return kind, true
		}
	}
	return 0, false
}

func isSign(t api.Token, sign string) bool { return t.Kind == api.TkSign && t.Text == sign }
