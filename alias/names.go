package alias

import (
	"slices"
	"strings"

	"cooper/api"
	"cooper/names"
)

// noName stands in a list where there is no name.
const noName = "-"

// Lists of names, by a number from 0 on.
const (
	addressNames   = "adr adrp"
	sumNames       = "add adds sub subs"
	compareNames   = "cmn cmp"
	negateNames    = "neg negs"
	logicNames     = "and bic orr orn eor eon ands bics"
	wideNames      = "movn - movz movk"
	bitfieldNames  = "sbfm bfm ubfm"
	insertNames    = "sbfiz bfi ubfiz"
	extractNames   = "sbfx bfxil ubfx"
	byteNames      = "sxtb - uxtb"
	halfNames      = "sxth - uxth"
	shiftNames     = "lsl lsr asr ror"
	branchNames    = "b bl"
	zeroNames      = "cbz cbnz"
	testNames      = "tbz tbnz"
	jumpNames      = "br blr ret - eret"
	exceptionNames = "svc hvc smc brk hlt dcps1 dcps2 dcps3"
	barrierNames   = "- - clrex - dsb dmb isb"
	registerNames  = "msr mrs"
	systemNames    = "sys sysl"
	literalNames   = "ldr ldr ldrsw prfm"
	passingNames   = "stnp ldnp - - stnp ldnp"
	pairNames      = "stp ldp - ldpsw stp ldp"
	transferNames  = "strb strh str str ldrb ldrh ldr ldr ldrsb ldrsh ldrsw prfm ldrsb ldrsh - -"
	exclusiveNames = "stxr stlxr ldxr ldaxr stxp stlxp ldxp ldaxp - stlr - ldar"
	sizeNames      = "b h"
	carryNames     = "adc adcs sbc sbcs"
	borrowNames    = "ngc ngcs"
	ifCompareNames = "ccmn ccmp"
	selectNames    = "csel csinc csinv csneg"
	setNames       = "- cset csetm -"
	changeNames    = "- cinc cinv cneg"
	oneNames       = "rbit rev16 rev32 rev clz cls"
	twoNames       = "- - udiv sdiv - - - - lslv lsrv asrv rorv - - - - crc32b crc32h crc32w crc32x crc32cb crc32ch crc32cw crc32cx"
	threeNames     = "madd msub smaddl smsubl smulh umaddl umsubl umulh"
	productNames   = "mul mneg smull smnegl - umull umnegl -"
)

// Names that no number picks.
const (
	moveName    = "mov"
	notName     = "mvn"
	tryName     = "tst"
	extractName = "extr"
	extendName  = "sxtw"
	clearName   = "bfc"
	hintName    = "hint"
	fetchName   = "prfm"
)

const condBranch = "b." // ahead of a condition's name

// fixedNames are all that stand in lists, or alone.
const fixedNames = addressNames + " " + sumNames + " " + compareNames + " " + negateNames + " " + logicNames + " " + wideNames + " " +
	bitfieldNames + " " + insertNames + " " + extractNames + " " + byteNames + " " + halfNames + " " + shiftNames + " " +
	branchNames + " " + zeroNames + " " + testNames + " " + jumpNames + " " + exceptionNames + " " + barrierNames + " " +
	registerNames + " " + systemNames + " " + literalNames + " " + passingNames + " " + pairNames + " " + transferNames + " " +
	exclusiveNames + " " + carryNames + " " + borrowNames + " " + ifCompareNames + " " + selectNames + " " + setNames + " " +
	changeNames + " " + oneNames + " " + twoNames + " " + threeNames + " " + productNames + " " +
	moveName + " " + notName + " " + tryName + " " + extractName + " " + extendName + " " + clearName + " " + hintName

// pick is a name of a list.
func pick(list string, n int64) string { return strings.Fields(list)[n] }

// withS is the number of a name in a list that has two for each number: without S, and with it.
func withS(n int64, s bool) int64 { return 2*n + flag(s) }

func flag(is bool) int64 {
	if is {
		return 1
	}
	return 0
}

// unscaled is the name of a load or store whose offset is not counted in units.
func unscaled(name string) string {
	if name == fetchName {
		return "prfum"
	}
	return name[:2] + "ur" + name[3:]
}

// unprivileged is the name of a load or store that is done as by a program.
func unprivileged(name string) string { return name[:2] + "tr" + name[3:] }

// allNames are all names of lines, rising.
func allNames() []string {
	all := strings.Fields(fixedNames)
	for name := range names.All(api.KdHint) {
		all = append(all, name)
	}
	for cond := range names.All(api.KdCond) {
		all = append(all, condBranch+cond)
	}
	all = append(all, transfers()...)
	all = append(all, sized()...)
	slices.Sort(all)
	all = slices.Compact(all)
	return slices.DeleteFunc(all, func(name string) bool { return name == noName })
}

// transfers are the names of loads and stores that are made of others.
func transfers() []string {
	var all []string
	for _, name := range strings.Fields(transferNames) {
		switch name {
		case noName:
		case fetchName:
			all = append(all, unscaled(name))
		default:
			all = append(all, unscaled(name), unprivileged(name))
		}
	}
	return all
}

// sized are the names of exclusive and ordered loads and stores of a byte, and of two.
func sized() []string {
	var all []string
	for _, name := range strings.Fields(exclusiveNames) {
		// Pairs, which end with p, have none.
		if !strings.HasSuffix(name, "r") {
			continue
		}
		for _, size := range strings.Fields(sizeNames) {
			all = append(all, name+size)
		}
	}
	return all
}
