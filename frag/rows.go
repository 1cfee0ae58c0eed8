package frag

import (
	"cooper/api"
	"cooper/object"
)

// parter puts the rows of a file into parts; line is the row's, section the name of the part into which rows are put.
type parter struct {
	maker
	file    int
	line    int
	section string
	faults  []api.Fault
}

func (p *parter) row(r api.Row) {
	p.line = r.Line
	for _, label := range r.S.Labels {
		p.name(api.Mark{Name: label})
	}
	switch s := r.S; s.Kind {
	case api.StInst:
		p.instruction(s.Line)
	case api.StSection:
		p.enter(first(s.Names))
	case api.StGlobal:
		for _, name := range s.Names {
			p.global(name)
		}
	case api.StAlign:
		p.piece(api.Piece{Kind: api.PcAlign, Align: int(first(s.Values).Add)})
	case api.StData:
		for _, v := range s.Values {
			p.piece(api.Piece{Kind: api.PcData, V: v, Size: s.Size})
		}
	case api.StAscii:
		p.piece(api.Piece{Kind: api.PcBytes, B: s.Bytes})
	case api.StEqu:
		p.name(api.Mark{Name: first(s.Names), Equ: true, V: first(s.Values)})
	}
}

// current is the number of the part into which rows are put, which is there from now on.
func (p *parter) current() int { return p.part(p.section, p.file, p.line) }

func (p *parter) instruction(l api.Line) {
	kind := api.PcInst
	if _, _, grows := Grows(l); grows {
		kind = api.PcBranch
	}
	p.piece(api.Piece{Kind: kind, L: l})
}

// piece is a piece more.
func (p *parter) piece(x api.Piece) {
	if object.KindOf(p.section) == api.SkZero && !isZeros(x) {
		p.fault(api.ErrBss)
		return
	}
	x.File, x.Line = p.file, p.line
	p.put(p.current(), x)
}

// name is a mark more, ahead of the piece that comes next.
func (p *parter) name(x api.Mark) {
	if p.refuses(x.Name, api.MaxSymName) {
		return
	}
	at := p.end(p.current())
	x.File, x.Line, x.Part, x.Piece = p.file, p.line, at.part, at.piece
	p.mark(x)
}

// global is a name more that is known outside.
func (p *parter) global(name string) {
	if !p.refuses(name, api.MaxSymName) {
		p.tell(api.Told{Name: name, File: p.file, Line: p.line})
	}
}

// enter makes a part the one into which rows are put from now on.
func (p *parter) enter(section string) {
	if !p.refuses(section, api.MaxSecName) {
		p.section = section
		p.current()
	}
}

// refuses tells whether a name has more than so many bytes, and that this is wrong.
func (p *parter) refuses(name string, most int) bool {
	if len(name) > most {
		p.fault(api.ErrLong)
	}
	return len(name) > most
}

func (p *parter) fault(wrong api.Errno) {
	p.faults = append(p.faults, api.Fault{File: p.file, Line: p.line, Err: wrong})
}

// isZeros tells whether a piece may stand among zeros.
func isZeros(p api.Piece) bool {
	switch p.Kind {
	case api.PcData:
		return p.V == api.Value{}
	case api.PcBytes:
		return len(p.B) == 0
	}
	return p.Kind == api.PcAlign
}
