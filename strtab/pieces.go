package strtab

import (
	"iter"
	"strings"
)

// places are where names begin.
type places map[string]int

// begun are the places of a table without names: the empty name begins at its only byte, and so never anywhere else.
func begun() places { return places{"": 0} }

// put lets a name begin at a place, and tells true, if it does not begin anywhere yet.
func (p places) put(name string, at int) bool {
	if _, has := p[name]; has {
		return false
	}
	p[name] = at
	return true
}

// pieces goes through what stands behind the first byte of a text, up to a byte 0 each, and where it begins; the text's last byte is 0.
func pieces(text string) iter.Seq2[int, string] {
	return func(yield func(int, string) bool) {
		for at := 1; at < len(text); {
			end := at + strings.IndexByte(text[at:], 0)
			if !yield(at, text[at:end]) {
				return
			}
			at = end + 1
		}
	}
}
