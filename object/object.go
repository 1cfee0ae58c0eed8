// Package object is layer 14: see shared/doc/14-object.md.
package object

import (
	"iter"
	"slices"
	"strings"

	"cooper/api"
)

// Check tells whether an object may be.
func Check(o api.Object) api.Errno {
	if len(o.Sections) > api.MaxSections || len(o.Symbols) > api.MaxSymbols || !sectionsMayBe(o) || !symbolsMayBe(o) ||
		twice(sectionNames(o)) || twice(symbolNames(o)) || !slices.IsSortedFunc(o.Symbols, order) {
		return api.ErrObject
	}
	return api.OK
}

// Width is how many bytes a relocation changes.
func Width(kind int) int {
	width := 0
	switch kind {
	case api.RlAbs64, api.RlPrel64:
		width += 4
		fallthrough
	case api.RlAbs32, api.RlPrel32, api.RlLd19, api.RlAdr21, api.RlPage21, api.RlAdd12, api.RlTest14, api.RlCond19, api.RlJump26, api.RlCall26,
		api.RlLdst8, api.RlLdst16, api.RlLdst32, api.RlLdst64:
		width += 2
		fallthrough
	case api.RlAbs16, api.RlPrel16:
		width += 2
	}
	return width
}

// KindOf is the kind of a section's name.
func KindOf(name string) int {
	switch {
	case within(name, ".text"):
		return api.SkText
	case within(name, ".rodata"):
		return api.SkRead
	case within(name, ".bss"):
		return api.SkZero
	}
	return api.SkData
}

// Norm is an object whose symbols are in order.
func Norm(o api.Object) api.Object {
	n := Clone(o)
	// was are the numbers that the symbols had, in their new order.
	was := make([]int, len(o.Symbols))
	for i := range was {
		was[i] = i
	}
	slices.SortStableFunc(was, func(i, j int) int { return order(o.Symbols[i], o.Symbols[j]) })
	is := make([]int, len(was))
	for to, from := range was {
		is[from] = to
		n.Symbols[to] = clonedSymbol(o.Symbols[from])
	}
	for _, s := range n.Sections {
		for i, r := range s.Relocs {
			if isNumber(r.Sym, len(is)) {
				s.Relocs[i].Sym = is[r.Sym]
			}
		}
	}
	return n
}

// Find is the first symbol of a name.
func Find(o api.Object, name string) (int, bool) { return first(symbolNames(o), name) }

// Section is the first section of a name.
func Section(o api.Object, name string) (int, bool) { return first(sectionNames(o), name) }

// Undefined goes through the names of the symbols that are defined elsewhere.
func Undefined(o api.Object) iter.Seq[string] {
	var names []string
	for _, s := range o.Symbols {
		if s.Section == api.NoSection {
			names = append(names, strings.Clone(s.Name))
		}
	}
	return slices.Values(names)
}

// At is the last symbol that is not behind a place of a section.
func At(o api.Object, section int, off int64) (int, bool) {
	at, found := 0, false
	for i, s := range o.Symbols {
		if s.Section == section && s.Value <= off && (!found || s.Value > o.Symbols[at].Value) {
			at, found = i, true
		}
	}
	return at, found
}

// Same tells whether two objects are the same.
func Same(a, b api.Object) bool {
	return slices.EqualFunc(a.Sections, b.Sections, sameSection) && slices.Equal(a.Symbols, b.Symbols)
}

// Clone is an object in memory of its own.
func Clone(o api.Object) api.Object {
	c := api.Object{Sections: slices.Clone(o.Sections), Symbols: slices.Clone(o.Symbols)}
	for i, s := range c.Sections {
		c.Sections[i] = clonedSection(s)
	}
	for i, s := range c.Symbols {
		c.Symbols[i] = clonedSymbol(s)
	}
	return c
}
