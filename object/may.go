package object

import (
	"iter"

	"cooper/api"
)

// The bytes that a section's name is made of: those that are seen.
const (
	lowest  = '!'
	highest = '~'
)

// sectionsMayBe tells whether each section of an object may be.
func sectionsMayBe(o api.Object) bool {
	for _, s := range o.Sections {
		if !sectionMayBe(s) || !relocsMayBe(s, len(o.Symbols)) {
			return false
		}
	}
	return true
}

// sectionMayBe tells whether a section may be, but for its relocations.
func sectionMayBe(s api.Section) bool {
	bytes := s.Size
	if s.Kind == api.SkZero {
		bytes = 0
	}
	return isSectionName(s.Name) && s.Kind == KindOf(s.Name) && isAlign(s.Align) &&
		s.Size >= 0 && s.Size <= api.MaxSecBytes && int64(len(s.Data)) == bytes
}

// relocsMayBe tells whether a section's relocations may be, where there are so many symbols.
func relocsMayBe(s api.Section, symbols int) bool {
	if len(s.Relocs) > api.MaxRelocs || s.Kind == api.SkZero && len(s.Relocs) > 0 {
		return false
	}
	end := int64(0)
	for _, r := range s.Relocs {
		width := int64(Width(r.Type))
		if width == 0 || r.Off < end || r.Off > s.Size-width || !isNumber(r.Sym, symbols) {
			return false
		}
		if r.Type >= api.RlLd19 && r.Off%4 != 0 {
			return false
		}
		end = r.Off + width
	}
	return true
}

// symbolsMayBe tells whether each symbol of an object may be.
func symbolsMayBe(o api.Object) bool {
	for _, s := range o.Symbols {
		if !isSymbolName(s.Name) || !standsWell(s, o.Sections) {
			return false
		}
	}
	return true
}

// standsWell tells whether a symbol may be where it is.
func standsWell(s api.Symbol, l []api.Section) bool {
	switch s.Section {
	case api.AbsSection:
		return true
	case api.NoSection:
		return s.Global && s.Value == 0
	}
	return isNumber(s.Section, len(l)) && s.Value >= 0 && s.Value <= l[s.Section].Size
}

func isSectionName(name string) bool {
	for i := range len(name) {
		if name[i] < lowest || name[i] > highest {
			return false
		}
	}
	return len(name) >= 1 && len(name) <= api.MaxSecName
}

func isSymbolName(name string) bool {
	for i := range len(name) {
		if name[i] == 0 {
			return false
		}
	}
	return len(name) >= 1 && len(name) <= api.MaxSymName
}

func isAlign(n int64) bool { return n >= 1 && n <= api.MaxSecAlign && n&(n-1) == 0 }

// isNumber tells whether one of so many has that number.
func isNumber(n, many int) bool { return n >= 0 && n < many }

// twice tells whether a name comes twice.
func twice(names iter.Seq[string]) bool {
	counts := map[string]int{}
	for name := range names {
		if counts[name]++; counts[name] > 1 {
			return true
		}
	}
	return false
}
