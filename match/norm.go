package match

import (
	"strings"

	"cooper/api"
	"cooper/oper"
)

const (
	pageBits  = 12
	pageUnit  = 1 << pageBits
	pagesMost = 4095

	shortSpan  = 1 << 32 // how many numbers have 32 bits
	shortLeast = -1 << 31

	indexLeast = -256
	indexMost  = 255

	fetchName = "prfm"
)

// norm is a line as Norm makes it.
func norm(l api.Line) api.Line {
	n := api.Line{Name: usualName(l.Name)}
	for _, o := range l.Opers {
		n.Opers = append(n.Opers, unshifted(oper.Plain(o)))
	}
	if len(n.Opers) == 0 {
		return n
	}
	last := &n.Opers[len(n.Opers)-1]
	switch {
	case isMask(n) && isNumber(*last, shortLeast, -1):
		last.V.Add += shortSpan
	case isSum(n) && isNumber(*last, pageUnit, pagesMost*pageUnit) && last.V.Add%pageUnit == 0:
		last.V.Add /= pageUnit
		last.Mod, last.Amt = api.ModLsl, pageBits
	case isTransfer(n) && isIndex(*last) && (last.V.Add < 0 || last.V.Add%accessBytes(n) != 0):
		n.Name = unscaledName(n.Name)
	}
	return n
}

// usualName is a name of which there are two as the one that lines have.
func usualName(name string) string {
	switch name {
	case "b.hs":
		return "b.cs"
	case "b.lo":
		return "b.cc"
	}
	return strings.Clone(name)
}

// unshifted is an operand without a shift that changes nothing.
func unshifted(o api.Oper) api.Oper {
	if (o.Kind == api.OrReg || o.Kind == api.OrNum) && o.Mod == api.ModLsl && o.Amt == 0 {
		o.Mod = api.ModNone
	}
	return o
}

// isMask tells whether a line is of those whose number of 32 bits may be told with a sign.
func isMask(l api.Line) bool {
	switch l.Name {
	case "mov", "and", "orr", "eor", "ands", "tst":
		return (len(l.Opers) == 2 || len(l.Opers) == 3) && isShort(l.Opers[0])
	}
	return false
}

// isSum tells whether a line is of those whose number may be told with its shift.
func isSum(l api.Line) bool {
	switch l.Name {
	case "add", "adds", "sub", "subs", "cmp", "cmn":
		return true
	}
	return false
}

// isTransfer tells whether a line is of those that have another name with an offset that is not counted in units.
func isTransfer(l api.Line) bool {
	switch l.Name {
	case "str", "strb", "strh", "ldr", "ldrb", "ldrh", "ldrsb", "ldrsh", "ldrsw", fetchName:
		return len(l.Opers) == 2
	}
	return false
}

func isShort(o api.Oper) bool { return o.Kind == api.OrReg && !o.R.X }

// isNumber tells whether an operand is a number as it stands, within these.
func isNumber(o api.Oper, least, most int64) bool {
	return o.Kind == api.OrNum && o.Mod == api.ModNone && isWithin(o, least, most)
}

// isIndex tells whether an operand is memory at an offset that may be told in bytes.
func isIndex(o api.Oper) bool {
	return o.Kind == api.OrMem && o.Mode == api.MmOff && isWithin(o, indexLeast, indexMost)
}

// isWithin tells whether an operand's value is a number, within these.
func isWithin(o api.Oper, least, most int64) bool {
	return !o.Lo && !hasSymbols(o.V) && o.V.Add >= least && o.V.Add <= most
}

// accessBytes are how many bytes a load or store reaches.
func accessBytes(l api.Line) int64 {
	switch {
	case strings.HasSuffix(l.Name, "b"):
		return 1
	case strings.HasSuffix(l.Name, "h"):
		return 2
	case l.Name == "ldrsw", isShort(l.Opers[0]):
		return 4
	}
	return 8
}

// unscaledName is the name of a load or store with an offset that is not counted in units.
func unscaledName(name string) string {
	if name == fetchName {
		return "prfum"
	}
	return name[:2] + "u" + name[2:]
}
