package place

import (
	"cooper/api"
	"cooper/object"
)

// namer finds out what all names are.
type namer struct {
	l     api.Layout
	marks []api.Mark          // of each name the first one
	equs  map[string]api.Mark // those of them that are told by other names
	// book is what is known. An .equ that is being reckoned stands there as one that needs itself: whatever is found to need it then, it needs, too.
	book book
}

// named is a namer that knows everything but what .equs are.
func named(u api.Unit, l api.Layout) *namer {
	n := &namer{l: l, marks: firsts(u.Marks), equs: map[string]api.Mark{}, book: book{}}
	for _, x := range u.Globals {
		n.book[x.Name] = entry{s: api.Symbol{Section: api.NoSection}}
	}
	for _, m := range n.marks {
		if m.Equ {
			n.equs[m.Name] = m
			delete(n.book, m.Name)
		} else {
			n.book[m.Name] = entry{s: label(m, u, l)}
		}
	}
	return n
}

// label is where a label stands.
func label(m api.Mark, u api.Unit, l api.Layout) api.Symbol {
	if !isNumber(m.Part, len(u.Parts)) {
		return api.Symbol{Section: api.AbsSection}
	}
	return api.Symbol{Section: m.Part, Value: placeOf(l, m.Part, m.Piece)}
}

// reckonAll finds out what all .equs are.
func (n *namer) reckonAll() {
	for _, m := range n.marks {
		if n.isUnknown(m.Name) {
			n.reckon(m)
		}
	}
}

// reckon finds out what an .equ is, and ahead of it what those are that it needs. What waits for others stands in a list, as more of them may wait for each other than calls should.
func (n *namer) reckon(equ api.Mark) {
	waiting := n.begin(nil, equ)
	for len(waiting) > 0 {
		m := waiting[len(waiting)-1]
		if next, is := n.unknown(m); is {
			waiting = n.begin(waiting, next)
			continue
		}
		n.book[m.Name] = n.reckoned(m)
		waiting = waiting[:len(waiting)-1]
	}
}

// begin lets an .equ wait behind others.
func (n *namer) begin(waiting []api.Mark, m api.Mark) []api.Mark {
	n.book[m.Name] = entry{wrong: api.ErrCycle}
	return append(waiting, m)
}

// unknown is an .equ that another one needs, and of which nothing is known yet.
func (n *namer) unknown(m api.Mark) (api.Mark, bool) {
	for name := range names(m.V) {
		if n.isUnknown(name) {
			return n.equs[name], true
		}
	}
	return api.Mark{}, false
}

// isUnknown tells whether a name is an .equ's of which nothing is known yet.
func (n *namer) isUnknown(name string) bool {
	_, known := n.book[name]
	_, is := n.equs[name]
	return is && !known
}

// reckoned is what an .equ is whose names are known, or being reckoned.
func (n *namer) reckoned(m api.Mark) entry {
	for name := range names(m.V) {
		if n.book[name].wrong == api.ErrCycle {
			return entry{wrong: api.ErrCycle}
		}
	}
	s, e := n.book.eval(m.V, m.Part, placeOf(n.l, m.Part, m.Piece))
	if e == api.OK && isPlace(s) && (s.Value < 0 || s.Value > endOf(n.l, s.Section)) {
		e = api.ErrRange
	}
	return entry{s: s, wrong: e}
}

// symbols are the names with which nothing is wrong, in order.
func (n *namer) symbols(outside []api.Told) []api.Symbol {
	counts := map[string]int{}
	for _, x := range outside {
		counts[x.Name]++
	}
	var o api.Object
	for name, x := range n.book {
		if x.wrong == api.OK {
			x.s.Name, x.s.Global = name, counts[name] > 0
			o.Symbols = append(o.Symbols, x.s)
		}
	}
	// No two have one name: their order does not hang on the one of before.
	return object.Norm(o).Symbols
}

// faults is what is wrong with names, mark by mark.
func (n *namer) faults() []api.Fault {
	var l []api.Fault
	for _, m := range n.marks {
		if e := n.book[m.Name].wrong; e != api.OK {
			l = append(l, api.Fault{File: m.File, Line: m.Line, Err: e})
		}
	}
	return l
}
