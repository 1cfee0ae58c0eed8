package alias_test

import (
	"strconv"
	"strings"

	"cooper/api"
	"cooper/names"
)

// odd stands where an operand has what its kind does not use.
const odd = "odd"

// text is a line as an assembler has it.
func text(l api.Line) string {
	var opers []string
	for _, o := range l.Opers {
		opers = append(opers, operText(o))
	}
	return strings.TrimSpace(l.Name + " " + strings.Join(opers, ", "))
}

func operText(o api.Oper) string {
	number := "#" + strconv.FormatInt(o.V.Add, 10)
	used := api.Oper{Kind: o.Kind, N: o.N}
	s := ""
	switch o.Kind {
	case api.OrReg:
		used = api.Oper{Kind: o.Kind, R: o.R, Mod: o.Mod, Amt: o.Amt}
		s = regText(o.R) + modText(o)
	case api.OrNum:
		used = api.Oper{Kind: o.Kind, V: api.Value{Add: o.V.Add}, Mod: o.Mod, Amt: o.Amt}
		s = number + modText(o)
	case api.OrTo:
		used = api.Oper{Kind: o.Kind, V: api.Value{Add: o.V.Add}}
		s = number
	case api.OrCond:
		s = nameText(api.KdCond, o.N)
	case api.OrSys:
		s = nameText(api.KdSys, o.N)
	case api.OrBar:
		s = nameText(api.KdBar, o.N)
	case api.OrPrf:
		s = nameText(api.KdPrf, o.N)
	case api.OrFld:
		s = nameText(api.KdField, o.N)
	case api.OrMem:
		used = api.Oper{Kind: o.Kind, R: o.R, Mode: o.Mode, V: api.Value{Add: o.V.Add}}
		if o.Mode == api.MmReg {
			used = api.Oper{Kind: o.Kind, R: o.R, Mode: o.Mode, M: o.M, Mod: o.Mod, Amt: o.Amt}
		}
		s = memText(o)
	}
	if used != o {
		return odd
	}
	return s
}

func regText(r api.Reg) string {
	s, e := names.RegName(r)
	if e != api.OK {
		return odd
	}
	return s
}

// nameText is a number's name, or, without one, #, and the number.
func nameText(kind int, n int64) string {
	s, e := names.Name(kind, n)
	if e != api.OK {
		return "#" + strconv.FormatInt(n, 10)
	}
	return s
}

// modText is a shift, or an extension: of 0 an extension has no number.
func modText(o api.Oper) string {
	switch {
	case o.Mod == api.ModNone && o.Amt != 0:
		return odd
	case o.Mod == api.ModNone:
		return ""
	case o.Mod >= api.ModUxtb && o.Amt == 0:
		return ", " + nameText(api.KdMod, int64(o.Mod))
	}
	return ", " + nameText(api.KdMod, int64(o.Mod)) + " #" + strconv.Itoa(o.Amt)
}

func memText(o api.Oper) string {
	base, offset := "["+regText(o.R), "#"+strconv.FormatInt(o.V.Add, 10)
	switch o.Mode {
	case api.MmPre:
		return base + ", " + offset + "]!"
	case api.MmPost:
		return base + "], " + offset
	case api.MmReg:
		return base + ", " + regText(o.M) + indexText(o) + "]"
	}
	if o.V.Add == 0 {
		return base + "]"
	}
	return base + ", " + offset + "]"
}

// indexText is how a register within memory is changed: lsl without a number is not told.
func indexText(o api.Oper) string {
	s := ", " + nameText(api.KdMod, int64(o.Mod))
	switch {
	case o.Amt < -1:
		return odd
	case o.Amt == -1 && o.Mod == api.ModLsl:
		return ""
	case o.Amt == -1:
		return s
	}
	return s + " #" + strconv.Itoa(o.Amt)
}
