package match

import (
	"slices"
	"strings"

	"cooper/alias"
	"cooper/api"
)

const (
	sizes   = 4 // of loads and stores: from a byte to eight
	opcodes = 4 // of each size
)

// loads are the classes that load and store.
func (t *taker) loads() bool {
	switch {
	case t.is("ldr", "ldrsw", fetchName) && t.ends(api.OrNum):
		t.literal()
	case t.is("stp", "ldp", noName, "ldpsw"):
		t.begin(api.Inst{Op: api.OpPair, S: t.odd(), B: t.which / 2}).take(t.pairD, t.ra, t.pairMemory)
	case t.is("stnp", "ldnp"):
		t.begin(api.Inst{Op: api.OpPair, S: t.odd()}).take(t.pairD, t.ra, t.passingMemory)
	default:
		return t.exclusive() || t.transfer()
	}
	return true
}

func (t *taker) literal() {
	t.begin(api.Inst{Op: api.OpLdLit, B: t.which + 1})
	switch t.which {
	case 0:
		t.take(t.literalD, t.far)
	case 1:
		t.take(t.rd, t.far)
	default:
		t.take(t.fetch, t.far)
	}
}

// literalD takes the register of ldr: there is one of each width.
func (t *taker) literalD(o api.Oper) {
	t.rd(o)
	if !o.R.X {
		t.x.B = 0
	}
}

// pairD takes the first register of a pair: the width counts, if the name does not tell it.
func (t *taker) pairD(o api.Oper) {
	t.rd(o)
	if t.x.B == 0 && o.R.X {
		t.x.B = 2
	}
}

// base takes the register where memory begins.
func (t *taker) base(o api.Oper) {
	need(o, api.OrMem)
	t.x.Rn = o.R.N
}

// passingMemory takes the memory of a pair that is not kept.
func (t *taker) passingMemory(o api.Oper) {
	t.base(o)
	t.x.A = o.V.Add / 4
	if t.x.B == 2 {
		t.x.A = o.V.Add / 8
	}
}

// pairMemory takes the memory of a pair.
func (t *taker) pairMemory(o api.Oper) {
	t.passingMemory(o)
	switch o.Mode {
	case api.MmPost:
		t.x.C = 1
	case api.MmPre:
		t.x.C = 3
	default:
		t.x.C = 2
	}
}

// exclusive tells whether it is an exclusive or ordered load or store, and takes it then.
func (t *taker) exclusive() bool {
	for b, size := range [...]string{"b", "h", ""} {
		name, sized := strings.CutSuffix(t.line.Name, size)
		which := slices.Index([]string{"stxr", "stlxr", "ldxr", "ldaxr", "stxp", "stlxp", "ldxp", "ldaxp", noName, "stlr", noName, "ldar"}, name)
		if sized && which >= 0 {
			t.begin(api.Inst{Op: api.OpEx, A: int64(which / 4), S: which/2%2 != 0, X: which%2 != 0, B: int64(b)})
			t.takeExclusive()
			return true
		}
	}
	return false
}

func (t *taker) takeExclusive() {
	switch pair := t.x.A == 1; {
	case pair && t.x.S:
		t.take(t.exclusiveD, t.ra, t.base)
	case pair:
		t.take(t.rm, t.exclusiveD, t.ra, t.base)
	case t.x.S, t.x.A == 2:
		t.take(t.exclusiveD, t.base)
	default:
		t.take(t.rm, t.exclusiveD, t.base)
	}
}

// exclusiveD takes the register that is loaded or stored: the width counts, if the name does not tell the size.
func (t *taker) exclusiveD(o api.Oper) {
	t.rd(o)
	if t.x.B == 2 && o.R.X {
		t.x.B = 3
	}
}

// transfer tells whether it is another load or store of one register, and takes it then.
func (t *taker) transfer() bool {
	if len(t.line.Opers) == 0 {
		return false
	}
	name, memory := t.scaledName()
	for n := range int64(sizes * opcodes) {
		size, opc := n/opcodes, n%opcodes
		usual, _, long := alias.Transfer(size, opc)
		if usual != name || usual != fetchName && long != t.line.Opers[0].R.X {
			continue
		}
		t.x.B, t.x.C = size, opc
		if usual == fetchName {
			t.take(t.fetch, memory)
		} else {
			t.take(t.rd, memory)
		}
		return true
	}
	return false
}

// scaledName is the name of a load or store whose offset is counted in units, and what takes the memory that is told.
func (t *taker) scaledName() (string, func(api.Oper)) {
	name := t.line.Name
	if name == "prfum" {
		return fetchName, t.unscaledMemory
	}
	if len(name) < 4 {
		return name, t.memory
	}
	switch name[2:4] {
	case "ur":
		return name[:2] + name[3:], t.unscaledMemory
	case "tr":
		return name[:2] + name[3:], t.unprivilegedMemory
	}
	return name, t.memory
}

// index takes memory of which the offset is told in bytes.
func (t *taker) index(o api.Oper, mode int) {
	t.x.Op, t.x.Ra, t.x.A = api.OpLdIdx, mode, o.V.Add
}

func (t *taker) unscaledMemory(o api.Oper)     { t.base(o); t.index(o, 0) }
func (t *taker) unprivilegedMemory(o api.Oper) { t.base(o); t.index(o, 2) }

// memory takes memory: how it is told tells the class.
func (t *taker) memory(o api.Oper) {
	t.base(o)
	switch o.Mode {
	case api.MmPost:
		t.index(o, 1)
	case api.MmPre:
		t.index(o, 3)
	case api.MmReg:
		t.x.Op, t.x.Rm, t.x.S, t.x.A = api.OpLdReg, o.M.N, o.Amt >= 0, extension(o.Mod)
	default:
		t.x.Op, t.x.A = api.OpLdImm, o.V.Add>>t.x.B
	}
}

// extension is how OpLdReg has the change of a register that is added: 0, if it has none.
func extension(mod int) int64 {
	switch mod {
	case api.ModUxtw:
		return 2
	case api.ModLsl:
		return 3
	case api.ModSxtw:
		return 6
	case api.ModSxtx:
		return 7
	}
	return 0
}
