package expr

import (
	"strconv"
	"strings"

	"cooper/api"
)

// node is a term, the nodes that it takes, and how many ( stand within each other in its text.
type node struct {
	term  api.Term
	of    []node
	depth int
}

// nest is a term's node, if its text may be so deep.
func nest(t api.Term, of ...node) (node, api.Errno) {
	n := node{term: t, of: append([]node(nil), of...)}
	for _, x := range of {
		n.depth = max(n.depth, x.depth+1)
	}
	if n.depth > api.MaxDepth {
		return node{}, api.ErrDepth
	}
	return n, api.OK
}

// write writes the node's text: of those that it takes the last one stands behind the sign.
func (n node) write(b *strings.Builder) {
	last := len(n.of) - 1
	if last < 0 {
		b.WriteString(leafText(n.term))
		return
	}
	b.WriteString(opening)
	for _, x := range n.of[:last] {
		x.write(b)
	}
	b.WriteString(operators[n.term.Kind].sign)
	n.of[last].write(b)
	b.WriteString(closing)
}

// leafText is the text of a number, or a symbol.
func leafText(t api.Term) string {
	switch {
	case t.Kind == api.ExSym:
		return t.Sym
	case t.N < 0:
		// A number below 0 has all sixteen digits.
		return "0x" + strconv.FormatUint(uint64(t.N), 16)
	}
	return strconv.FormatInt(t.N, 10)
}

// isPart tells whether a text may stand in a value as a symbol.
func isPart(s string) bool { return s == "" || IsSym(s) }

// valueText is the text of a value that may be.
func valueText(v api.Value) string {
	var b strings.Builder
	b.WriteString(v.Plus)
	if v.Minus != "" {
		if v.Plus == "" {
			b.WriteString("0")
		}
		b.WriteString("-")
		b.WriteString(v.Minus)
	}
	if v.Add > 0 && hasSymbols(v) {
		b.WriteString("+")
	}
	if v.Add != 0 || !hasSymbols(v) {
		b.WriteString(strconv.FormatInt(v.Add, 10))
	}
	return b.String()
}
