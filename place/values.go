package place

import (
	"cmp"
	"iter"
	"slices"
	"strings"

	"cooper/api"
)

// here is the name of the place where a value stands.
const here = "."

// entry is where a name stands, or what is wrong with it.
type entry struct {
	s     api.Symbol
	wrong api.Errno
}

// book is what names are.
type book map[string]entry

// booked are of each of some names the first symbol that has it.
func booked(l []api.Symbol, names []string) book {
	slices.Sort(names)
	names = slices.Compact(names)
	b := book{}
	for i := 0; i < len(l) && len(b) < len(names); i++ {
		name := l[i].Name
		if _, wanted := slices.BinarySearch(names, name); !wanted {
			continue
		}
		if _, is := b[name]; !is {
			b[name] = entry{s: l[i]}
		}
	}
	return b
}

// eval is what a value comes to that stands at a place of a part.
func (b book) eval(v api.Value, part int, off int64) (api.Symbol, api.Errno) {
	at := api.Symbol{Section: part, Value: off}
	plus, minus := b.term(v.Plus, at), b.term(v.Minus, at)
	if e := cmp.Or(plus.wrong, minus.wrong); e != api.OK {
		return api.Symbol{}, e
	}
	return sum(v.Add, plus.s, minus.s)
}

// term is what a name in a value is: no name is the number 0.
func (b book) term(name string, at api.Symbol) entry {
	switch name {
	case "":
		return entry{s: api.Symbol{Section: api.AbsSection}}
	case here:
		return entry{s: at}
	}
	if x, is := b[name]; is {
		return x
	}
	return entry{wrong: api.ErrNone}
}

// sum is a number, and one symbol more, and another one less.
func sum(add int64, plus, minus api.Symbol) (api.Symbol, api.Errno) {
	if plus.Section == api.NoSection || minus.Section == api.NoSection {
		return api.Symbol{}, api.ErrEqu
	}
	s := api.Symbol{Section: api.AbsSection, Value: add + plus.Value - minus.Value}
	switch {
	case plus.Section == minus.Section:
		// How far it is from one to the other, be they places or numbers.
	case isPlace(minus):
		return api.Symbol{}, api.ErrEqu
	case isPlace(plus):
		s.Section = plus.Section
	}
	return s, api.OK
}

// isPlace tells whether a symbol is in a section, and no number.
func isPlace(s api.Symbol) bool { return s.Section >= 0 }

// names goes through the names in a value, but that of the place where it stands.
func names(v api.Value) iter.Seq[string] {
	return func(yield func(string) bool) {
		for _, name := range [...]string{v.Plus, v.Minus} {
			if name != "" && name != here && !yield(name) {
				return
			}
		}
	}
}

// isBound tells whether an operand's symbols must be numbers, as no linker fills them in.
func isBound(o api.Oper) bool { return o.Kind != api.OrTo && !o.Lo }

// asked are the names in a line of which it is asked whether they are numbers.
func asked(l api.Line) []string {
	var all []string
	for _, o := range l.Opers {
		if isBound(o) {
			all = slices.AppendSeq(all, names(o.V))
		}
	}
	return all
}

// clonedLine is a line in memory of its own.
func clonedLine(l api.Line) api.Line {
	l.Name = strings.Clone(l.Name)
	l.Opers = slices.Clone(l.Opers)
	for i, o := range l.Opers {
		l.Opers[i].V.Plus = strings.Clone(o.V.Plus)
		l.Opers[i].V.Minus = strings.Clone(o.V.Minus)
	}
	return l
}
