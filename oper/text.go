package oper

import (
	"strconv"

	"cooper/api"
	"cooper/expr"
	"cooper/names"
)

const (
	comma   = ","
	hash    = "#"
	colon   = ":"
	mark    = "!"
	opening = "["
	closing = "]"

	parting = comma + " "
	low     = "lo12" // of a value the lowest 12 bits
)

// text is the text of an operand that may be.
func text(o api.Oper) string {
	switch o.Kind {
	case api.OrReg:
		return regText(o.R) + modText(o)
	case api.OrNum:
		return numberText(o) + modText(o)
	case api.OrTo:
		return placeText(o)
	case api.OrMem:
		return memoryText(o)
	}
	return nameText(nameKind(o.Kind), o.N)
}

func regText(r api.Reg) string {
	s, _ := names.RegName(r)
	return s
}

func valueText(v api.Value) string {
	s, _ := expr.Print(v)
	return s
}

// nameText is a number's name: without one the number.
func nameText(kind int, n int64) string {
	s, none := names.Name(kind, n)
	if none != api.OK {
		return hash + strconv.FormatInt(n, 10)
	}
	return s
}

// numberText is a value that is no place, whole or of its lowest bits.
func numberText(o api.Oper) string {
	if o.Lo {
		return colon + low + colon + valueText(o.V)
	}
	return hash + valueText(o.V)
}

func placeText(o api.Oper) string {
	if isNumber(o.V) {
		return numberText(o)
	}
	return valueText(o.V)
}

// modText is how a register, or a number, is shifted or extended: not at all, by as much as is told, or not told.
func modText(o api.Oper) string {
	silent := o.Mod >= api.ModUxtb && o.Amt == 0
	if o.Mode == api.MmReg {
		silent = o.Amt == unshifted
	}
	switch {
	case o.Mod == api.ModNone, silent && o.Mod == api.ModLsl:
		return ""
	case silent:
		return parting + nameText(api.KdMod, int64(o.Mod))
	}
	return parting + nameText(api.KdMod, int64(o.Mod)) + " " + hash + strconv.Itoa(o.Amt)
}

func memoryText(o api.Oper) string {
	base := opening + regText(o.R)
	switch {
	case isBase(o):
		return base + closing
	case o.Mode == api.MmPre:
		return base + parting + numberText(o) + closing + mark
	case o.Mode == api.MmPost:
		return base + closing + parting + numberText(o)
	case o.Mode == api.MmReg:
		return base + parting + regText(o.M) + modText(o) + closing
	}
	return base + parting + numberText(o) + closing
}
