package names

import "cooper/api"

// row is a name and its number.
type row struct {
	name string
	n    int64
}

// through goes through a table, row by row.
func through(table []row, yield func(string, int64) bool) {
	for _, r := range table {
		if !yield(r.name, r.n) {
			return
		}
	}
}

func conditions(yield func(string, int64) bool) {
	table := [...]row{
		{"eq", 0}, {"ne", 1}, {"cs", 2}, {"cc", 3}, {"mi", 4}, {"pl", 5}, {"vs", 6}, {"vc", 7},
		{"hi", 8}, {"ls", 9}, {"ge", 10}, {"lt", 11}, {"gt", 12}, {"le", 13}, {"al", 14}, {"nv", 15},
	}
	through(table[:], yield)
}

func mods(yield func(string, int64) bool) {
	table := [...]row{
		{"lsl", api.ModLsl}, {"lsr", api.ModLsr}, {"asr", api.ModAsr}, {"ror", api.ModRor},
		{"uxtb", api.ModUxtb}, {"uxth", api.ModUxth}, {"uxtw", api.ModUxtw}, {"uxtx", api.ModUxtx},
		{"sxtb", api.ModSxtb}, {"sxth", api.ModSxth}, {"sxtw", api.ModSxtw}, {"sxtx", api.ModSxtx},
	}
	through(table[:], yield)
}

func barriers(yield func(string, int64) bool) {
	table := [...]row{
		{"oshld", 1}, {"oshst", 2}, {"osh", 3}, {"nshld", 5}, {"nshst", 6}, {"nsh", 7},
		{"ishld", 9}, {"ishst", 10}, {"ish", 11}, {"ld", 13}, {"st", 14}, {"sy", 15},
	}
	through(table[:], yield)
}

func hints(yield func(string, int64) bool) {
	table := [...]row{
		{"nop", 0}, {"yield", 1}, {"wfe", 2}, {"wfi", 3}, {"sev", 4}, {"sevl", 5}, {"dgh", 6}, {"esb", 16}, {"csdb", 20},
	}
	through(table[:], yield)
}

func systems(yield func(string, int64) bool) {
	table := [...]row{
		{"mdscr_el1", 18}, {"midr_el1", 16384}, {"mpidr_el1", 16389}, {"id_aa64pfr0_el1", 16416},
		{"id_aa64isar0_el1", 16432}, {"id_aa64mmfr0_el1", 16440}, {"sctlr_el1", 16512}, {"actlr_el1", 16513},
		{"cpacr_el1", 16514}, {"ttbr0_el1", 16640}, {"ttbr1_el1", 16641}, {"tcr_el1", 16642},
		{"spsr_el1", 16896}, {"elr_el1", 16897}, {"sp_el0", 16904}, {"spsel", 16912},
		{"currentel", 16914}, {"esr_el1", 17040}, {"far_el1", 17152}, {"par_el1", 17312},
		{"mair_el1", 17680}, {"vbar_el1", 17920}, {"isr_el1", 17928}, {"contextidr_el1", 18049},
		{"tpidr_el1", 18052}, {"ctr_el0", 22529}, {"dczid_el0", 22535}, {"nzcv", 23056},
		{"daif", 23057}, {"fpcr", 23072}, {"fpsr", 23073}, {"tpidr_el0", 24194},
		{"tpidrro_el0", 24195}, {"cntfrq_el0", 24320}, {"cntpct_el0", 24321}, {"cntvct_el0", 24322},
		{"cntp_ctl_el0", 24337}, {"cntv_ctl_el0", 24345}, {"cntv_cval_el0", 24346},
	}
	through(table[:], yield)
}

func fetches(yield func(string, int64) bool) {
	table := [...]row{
		{"pldl1keep", 0}, {"pldl1strm", 1}, {"pldl2keep", 2}, {"pldl2strm", 3}, {"pldl3keep", 4}, {"pldl3strm", 5},
		{"plil1keep", 8}, {"plil1strm", 9}, {"plil2keep", 10}, {"plil2strm", 11}, {"plil3keep", 12}, {"plil3strm", 13},
		{"pstl1keep", 16}, {"pstl1strm", 17}, {"pstl2keep", 18}, {"pstl2strm", 19}, {"pstl3keep", 20}, {"pstl3strm", 21},
	}
	through(table[:], yield)
}

func fields(yield func(string, int64) bool) {
	table := [...]row{
		{"spsel", 0}, {"daifset", 1}, {"daifclr", 2}, {"pan", 3}, {"uao", 4}, {"dit", 5},
	}
	through(table[:], yield)
}

// none goes through the names of what is no kind.
func none(func(string, int64) bool) {}
