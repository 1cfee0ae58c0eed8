package object

import (
	"bytes"
	"cmp"
	"iter"
	"slices"
	"strings"

	"cooper/api"
)

// names goes through the names of all of a list.
func names[T any](l []T, name func(T) string) iter.Seq[string] {
	return func(yield func(string) bool) {
		for _, x := range l {
			if !yield(name(x)) {
				return
			}
		}
	}
}

func sectionNames(o api.Object) iter.Seq[string] {
	return names(o.Sections, func(s api.Section) string { return s.Name })
}

func symbolNames(o api.Object) iter.Seq[string] {
	return names(o.Symbols, func(s api.Symbol) string { return s.Name })
}

// first is the number of the first one of the names that is that name.
func first(names iter.Seq[string], name string) (int, bool) {
	at := 0
	for n := range names {
		if n == name {
			return at, true
		}
		at++
	}
	return 0, false
}

// within tells whether a section's name is a family's, or one of it.
func within(name, family string) bool {
	return name == family || strings.HasPrefix(name, family+".")
}

// order tells which of two symbols comes first: those that others see come behind, in both parts by names.
func order(a, b api.Symbol) int {
	if a.Global != b.Global {
		if b.Global {
			return -1
		}
		return 1
	}
	return cmp.Compare(a.Name, b.Name)
}

func sameSection(a, b api.Section) bool {
	return a.Name == b.Name && a.Kind == b.Kind && a.Align == b.Align && a.Size == b.Size &&
		bytes.Equal(a.Data, b.Data) && slices.Equal(a.Relocs, b.Relocs)
}

// clonedSection is a section in memory of its own.
func clonedSection(s api.Section) api.Section {
	s.Name = strings.Clone(s.Name)
	s.Data = slices.Clone(s.Data)
	s.Relocs = slices.Clone(s.Relocs)
	return s
}

// clonedSymbol is a symbol in memory of its own.
func clonedSymbol(s api.Symbol) api.Symbol {
	s.Name = strings.Clone(s.Name)
	return s
}
