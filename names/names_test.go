package names_test

import (
	"iter"
	"math"
	"regexp"
	"slices"
	"strconv"
	"strings"
	"testing"

	"cooper/api"
	"cooper/names"
)

// told is what the document has of P3.2, word by word.
const told = `KdCond: eq 0, ne 1, cs 2, cc 3, mi 4, pl 5, vs 6, vc 7, hi 8, ls 9, ge 10, lt 11, gt 12, le 13, al 14, nv 15. KdMod: lsl 1, lsr 2, asr 3, ror 4, uxtb 5, uxth 6, uxtw 7, uxtx 8, sxtb 9, sxth 10, sxtw 11, sxtx 12. KdBar: oshld 1, oshst 2, osh 3, nshld 5, nshst 6, nsh 7, ishld 9, ishst 10, ish 11, ld 13, st 14, sy 15. KdHint: nop 0, yield 1, wfe 2, wfi 3, sev 4, sevl 5, dgh 6, esb 16, csdb 20. KdPrf: pldl1keep 0, pldl1strm 1, pldl2keep 2, pldl2strm 3, pldl3keep 4, pldl3strm 5, plil1keep 8, plil1strm 9, plil2keep 10, plil2strm 11, plil3keep 12, plil3strm 13, pstl1keep 16, pstl1strm 17, pstl2keep 18, pstl2strm 19, pstl3keep 20, pstl3strm 21. KdField: spsel 0, daifset 1, daifclr 2, pan 3, uao 4, dit 5. KdSys: mdscr_el1 18, midr_el1 16384, mpidr_el1 16389, id_aa64pfr0_el1 16416, id_aa64isar0_el1 16432, id_aa64mmfr0_el1 16440, sctlr_el1 16512, actlr_el1 16513, cpacr_el1 16514, ttbr0_el1 16640, ttbr1_el1 16641, tcr_el1 16642, spsr_el1 16896, elr_el1 16897, sp_el0 16904, spsel 16912, currentel 16914, esr_el1 17040, far_el1 17152, par_el1 17312, mair_el1 17680, vbar_el1 17920, isr_el1 17928, contextidr_el1 18049, tpidr_el1 18052, ctr_el0 22529, dczid_el0 22535, nzcv 23056, daif 23057, fpcr 23072, fpsr 23073, tpidr_el0 24194, tpidrro_el0 24195, cntfrq_el0 24320, cntpct_el0 24321, cntvct_el0 24322, cntp_ctl_el0 24337, cntv_ctl_el0 24345, cntv_cval_el0 24346.`

var kinds = map[string]int{"KdReg": api.KdReg, "KdCond": api.KdCond, "KdMod": api.KdMod, "KdBar": api.KdBar, "KdHint": api.KdHint, "KdSys": api.KdSys, "KdPrf": api.KdPrf, "KdField": api.KdField}

// noKinds are numbers of no kind.
var noKinds = []int{0, 9, 10, -1, -2, 32, 256 + api.KdCond, 1<<32 + api.KdReg, math.MinInt, math.MinInt + api.KdReg, math.MaxInt}

type pair struct {
	name string
	n    int64
}

// regs are all registers' names, by the form of their numbers.
func regs() []pair {
	var l []pair
	for i := range 31 {
		l = append(l, pair{"w" + strconv.Itoa(i), int64(i)}, pair{"x" + strconv.Itoa(i), int64(i) + 32})
	}
	l = append(l, pair{"wzr", 31}, pair{"xzr", 63}, pair{"wsp", 95}, pair{"sp", 127})
	slices.SortFunc(l, func(a, b pair) int { return int(a.n - b.n) })
	return l
}

// document is the names of each kind, in the document's order.
func document(t testing.TB) map[int][]pair {
	t.Helper()
	m := map[int][]pair{api.KdReg: regs()}
	for _, s := range strings.SplitAfter(told, ".") {
		kind, list, ok := strings.Cut(strings.Trim(s, " ."), ": ")
		if !ok {
			continue
		}
		for _, item := range strings.Split(list, ", ") {
			name, number, _ := strings.Cut(item, " ")
			n, err := strconv.ParseInt(number, 10, 64)
			if err != nil || kinds[kind] == 0 {
				t.Fatal(kind, item)
			}
			m[kinds[kind]] = append(m[kinds[kind]], pair{name, n})
		}
	}
	if len(m) != 8 {
		t.Fatal(len(m))
	}
	return m
}

// systemForm is the form of numbers, asked of a text in another way than the program does.
var systemForm = regexp.MustCompile(`^s([23])_([0-7])_c([0-9]|1[0-5])_c([0-9]|1[0-5])_([0-7])$`)

func formNumber(s string) (int64, bool) {
	m := systemForm.FindStringSubmatch(s)
	if m == nil {
		return 0, false
	}
	var v [5]int64
	for i := range v {
		v[i], _ = strconv.ParseInt(m[i+1], 10, 64)
	}
	return (v[0]-2)*16384 + v[1]*2048 + v[2]*128 + v[3]*8 + v[4], true
}

func formText(n int64) string {
	at := func(low, width int) string { return strconv.FormatInt(n>>low&(1<<width-1), 10) }
	return "s" + strconv.FormatInt(n>>14+2, 10) + "_" + at(11, 3) + "_c" + at(7, 4) + "_c" + at(3, 4) + "_" + at(0, 3)
}

// right are what Number takes of each kind: what stands in the document, two conditions' other names, and all forms of numbers.
func right(t testing.TB) map[int]map[string]int64 {
	m := map[int]map[string]int64{}
	for kind, l := range document(t) {
		m[kind] = map[string]int64{}
		for _, p := range l {
			m[kind][p.name] = p.n
		}
	}
	m[api.KdCond]["hs"], m[api.KdCond]["lo"] = 2, 3
	for n := range int64(1 << 15) {
		m[api.KdSys][formText(n)] = n
	}
	return m
}

// names that are none, but near to some.
var wrong = []string{
	"", " ", "x", "w", "r0", "r1", "x31", "w31", "x32", "x99", "x00", "x01", "w00", "w030", "x030", "X0", "X1", "W1", "x-1", "x+1", "w-0", "x1 ", " x1", "x1_", "x_1", "x 1", "x0x1", "x1.", "x٣", "x1\x00",
	"x18446744073709551616", "x4294967296", "x-9223372036854775808", "w340282366920938463463374607431768211456",
	"spx", "SP", "Sp", "sp0", "xsp", "wsp0", "zr", "xzr0", "XZR", "Wzr", "xz", "wz", "s", "lr", "fp", "pc", "wspsp",
	"EQ", "Eq", "e", "eqq", "b.eq", "HS", "LO", "h", "l", "hsl", "none", "0", "1", "14", "-1", "add", "mov",
	"LSL", "ls l", "uxt", "sxt", "uxtb0", "rrx", "msl", "UXTW", "sxtz", "oshl", "nshl", "OSH", "ishld ", "sys", "SY", "full",
	"NOP", "nop ", "hint", "nops", "psb", "bti", "wfet", "csd", "sb",
	"pld", "pldl1", "pldl0keep", "pldl4keep", "pldl1stream", "plil1", "pstl3", "pstl1keeps", "prfm", "PLDL1KEEP", "#0",
	"daif ", "daifsett", "DAIF", "nzcvq", "pstate", "spsel ", "SPSel", "ssbs", "tco", "midr", "midr_el0", "midr_el11", "MIDR_EL1", "sp_el1", "vbar_el3", "ttbr2_el1",
	"s3", "s3_", "s3_3", "s3_3_c4", "s3_3_c4_c2", "s3_3_c4_c2_", "s3_3_c4_c2_0_", "s3_3_c4_c2_0_0", "_s3_3_c4_c2_0", "s3_3_c4_c2_0 ", "s3__c4_c2_0", "s_3_c4_c2_0", "3_3_c4_c2_0",
	"s0_3_c4_c2_0", "s1_3_c4_c2_0", "s4_3_c4_c2_0", "s3_8_c4_c2_0", "s3_3_c16_c2_0", "s3_3_c4_c16_0", "s3_3_c4_c2_8", "s3_3_c99_c2_0", "s3_3_c4_c2_10",
	"s03_3_c4_c2_0", "s3_03_c4_c2_0", "s3_3_c04_c2_0", "s3_3_c4_c02_0", "s3_3_c4_c2_00", "s3_3_c015_c2_0", "s-3_3_c4_c2_0", "s+3_3_c4_c2_0", "s3_-0_c4_c2_0", "s3_3_c+4_c2_0", "s3_3_c4_c-0_0", "s3_3_c4_c2_+0",
	"s3_3_4_c2_0", "s3_3_c4_2_0", "s3_c3_c4_c2_0", "s3_3_c4_c2_c0", "S3_3_c4_c2_0", "s3_3_C4_c2_0", "s3_3_c4_C2_0", "s3_3_cc4_c2_0", "s3-3-c4-c2-0", "s3.3.c4.c2.0", "s3 _3_c4_c2_0", "s3_3_c_c2_0", "s3_3_c4_c_0", "ss3_3_c4_c2_0", "s3_0x3_c4_c2_0", "s3_3_c1_0_c2_0", "s3_3_c4294967300_c2_0", "s3_3_c18446744073709551620_c2_0", "____", "s_____",
}

// changed are a text with each byte left out, doubled, or another one.
func changed(s string) []string {
	var l []string
	for i := range len(s) {
		l = append(l, s[:i]+s[i+1:], s[:i]+s[i:i+1]+s[i:])
		for _, b := range []byte{'0', '1', '2', '7', '8', '9', '_', 'c', 's', 'x', 'w', 'a', 'S', 'A', '+', '-', ' ', 0, 0xff, s[i] ^ 0x20} {
			l = append(l, s[:i]+string([]byte{b})+s[i+1:], s[:i]+string([]byte{b})+s[i:])
		}
	}
	return l
}

// some are many texts: right ones, near ones, wrong ones.
func some(t testing.TB) []string {
	l := slices.Clone(wrong)
	for _, m := range document(t) {
		for _, p := range m {
			l = append(l, p.name, strings.ToUpper(p.name), p.name+p.name)
			l = append(l, changed(p.name)...)
		}
	}
	for _, s := range []string{"hs", "lo", "s3_3_c4_c2_0", "s2_0_c0_c0_0", "s3_7_c15_c15_7", "s2_1_c10_c9_3"} {
		l = append(l, s)
		l = append(l, changed(s)...)
	}
	for a := range 6 {
		for b := range 12 {
			for c := range 20 {
				n := []string{strconv.Itoa(a), strconv.Itoa(b), "c" + strconv.Itoa(c), "c" + strconv.Itoa(19-c), strconv.Itoa(11 - b)}
				l = append(l, "s"+strings.Join(n, "_"))
			}
		}
	}
	return l
}

// P3.1: the registers are the ones by the form, and no other text is one.
func TestReg(t *testing.T) {
	want := map[string]api.Reg{"xzr": {N: 31, X: true}, "wzr": {N: 31}, "sp": {N: 31, X: true, SP: true}, "wsp": {N: 31, SP: true}}
	for n := range 31 {
		want["x"+strconv.Itoa(n)] = api.Reg{N: n, X: true}
		want["w"+strconv.Itoa(n)] = api.Reg{N: n}
	}
	found := map[string]bool{}
	check := func(s string) {
		r, e := names.Reg(s)
		w, is := want[s]
		if r != w || (e == api.OK) != is || !is && e != api.ErrName {
			t.Fatalf("Reg(%q): %v, %d", s, r, e)
		}
		if is {
			found[s] = true
		}
	}
	// All texts of up to four of these letters.
	const letters = "xwzrsp0123459X+-_ "
	var grow func(s string)
	grow = func(s string) {
		check(s)
		for i := 0; i < len(letters) && len(s) < 4; i++ {
			grow(s + letters[i:i+1])
		}
	}
	grow("")
	for _, s := range some(t) {
		check(s)
	}
	for s := range want {
		check(s)
	}
	if len(found) != 66 {
		t.Fatal(len(found))
	}
	if r, e := names.Reg("x" + strings.Repeat("1", 1<<20)); r != (api.Reg{}) || e != api.ErrName {
		t.Fatal(r, e)
	}
}

// P3.1: the name of each register, and of no other.
func TestRegName(t *testing.T) {
	want := map[api.Reg]string{{N: 31, X: true}: "xzr", {N: 31}: "wzr", {N: 31, X: true, SP: true}: "sp", {N: 31, SP: true}: "wsp"}
	for n := range 31 {
		want[api.Reg{N: n, X: true}] = "x" + strconv.Itoa(n)
		want[api.Reg{N: n}] = "w" + strconv.Itoa(n)
	}
	numbers := []int{math.MinInt, math.MinInt + 31, math.MaxInt, 1 << 32, 1<<32 + 31, 1<<8 + 1, 127, 128, -32, -100}
	for n := -3; n < 70; n++ {
		numbers = append(numbers, n)
	}
	found := 0
	for _, n := range numbers {
		for i := range 4 {
			r := api.Reg{N: n, X: i&1 != 0, SP: i&2 != 0}
			s, e := names.RegName(r)
			w, is := want[r]
			if s != w || (e == api.OK) != is || !is && e != api.ErrName {
				t.Errorf("RegName(%v): %q, %d", r, s, e)
			}
			if !is {
				continue
			}
			found++
			if back, e := names.Reg(s); back != r || e != api.OK {
				t.Errorf("Reg(%q): %v, %d", s, back, e)
			}
		}
	}
	if found != 66 {
		t.Fatal(found)
	}
}

func collect(seq iter.Seq2[string, int64]) []pair {
	var l []pair
	for s, n := range seq {
		l = append(l, pair{s, n})
	}
	return l
}

// P3.2, P3.3: All tells what the document has, rising; it may stop anywhere, and be done again.
func TestAll(t *testing.T) {
	so := map[int]int{api.KdReg: 66, api.KdCond: 16, api.KdMod: 12, api.KdBar: 12, api.KdHint: 9, api.KdSys: 39, api.KdPrf: 18, api.KdField: 6}
	for kind, want := range document(t) {
		seq := names.All(kind)
		if got := collect(seq); !slices.Equal(got, want) || len(got) != so[kind] {
			t.Errorf("All(%d): %v", kind, got)
		}
		for stop := range want {
			k := 0
			for s, n := range seq {
				if (pair{s, n}) != want[k] {
					t.Fatal(kind, k, s, n)
				}
				if k++; k > stop {
					break
				}
			}
			if k != stop+1 {
				t.Fatal(kind, stop, k)
			}
		}
		if got := collect(seq); !slices.Equal(got, want) {
			t.Errorf("All(%d) once more: %v", kind, got)
		}
		if !slices.IsSortedFunc(want, func(a, b pair) int { return int(a.n - b.n) }) {
			t.Errorf("of %d the document itself does not rise", kind)
		}
	}
	for _, kind := range noKinds {
		if got := collect(names.All(kind)); got != nil {
			t.Errorf("All(%d): %v", kind, got)
		}
	}
}

// P3.3: the constants of package api are the numbers of the shifts and extensions.
func TestModNumbers(t *testing.T) {
	for s, want := range map[string]int64{"lsl": api.ModLsl, "lsr": api.ModLsr, "asr": api.ModAsr, "ror": api.ModRor, "uxtb": api.ModUxtb, "uxth": api.ModUxth, "uxtw": api.ModUxtw, "uxtx": api.ModUxtx, "sxtb": api.ModSxtb, "sxth": api.ModSxth, "sxtw": api.ModSxtw, "sxtx": api.ModSxtx} {
		if n, e := names.Number(api.KdMod, s); n != want || e != api.OK {
			t.Error(s, n, e)
		}
	}
	if s, e := names.Name(api.KdMod, api.ModNone); s != "" || e != api.ErrName {
		t.Error(s, e)
	}
}

// P3.3: Number takes the names of the kind alone, and answers ErrName of all else.
func TestNumber(t *testing.T) {
	all := right(t)
	texts := some(t)
	for _, m := range all {
		for s := range m {
			texts = append(texts, s)
		}
	}
	for kind, m := range all {
		for _, s := range texts {
			want, is := m[s]
			n, e := names.Number(kind, s)
			if n != want || (e == api.OK) != is || !is && e != api.ErrName {
				t.Fatalf("Number(%d, %q): %d, %d", kind, s, n, e)
			}
		}
	}
	for _, kind := range noKinds {
		for _, s := range []string{"", "eq", "hs", "x0", "sp", "lsl", "sy", "nop", "spsel", "nzcv", "s3_3_c4_c2_0", "pldl1keep"} {
			if n, e := names.Number(kind, s); n != 0 || e != api.ErrName {
				t.Errorf("Number(%d, %q): %d, %d", kind, s, n, e)
			}
		}
	}
	for _, s := range []string{"s3_3_c" + strings.Repeat("9", 1<<20) + "_c2_0", strings.Repeat("s3_", 1<<18), "s" + strings.Repeat("0", 1<<20) + "3_3_c4_c2_0"} {
		if n, e := names.Number(api.KdSys, s); n != 0 || e != api.ErrName {
			t.Error(len(s), n, e)
		}
	}
}

// P3.3: the forms of numbers that Number takes are just those of the form.
func TestSystemForm(t *testing.T) {
	for _, s := range some(t) {
		want, is := formNumber(s)
		n, e := names.Number(api.KdSys, s)
		if is && (n != want || e != api.OK) || strings.Count(s, "_") == 4 && (e == api.OK) != is {
			t.Errorf("Number of %q: %d, %d", s, n, e)
		}
	}
	for _, c := range []pair{{"s2_0_c0_c0_0", 0}, {"s3_0_c0_c0_0", 1 << 14}, {"s2_7_c0_c0_0", 7 << 11}, {"s2_0_c15_c0_0", 15 << 7}, {"s2_0_c0_c15_0", 15 << 3}, {"s2_0_c0_c0_7", 7}, {"s3_7_c15_c15_7", 1<<15 - 1}, {"s3_3_c4_c2_0", 0b101101000010000}} {
		if n, e := names.Number(api.KdSys, c.name); n != c.n || e != api.OK {
			t.Errorf("Number of %q: %d, %d", c.name, n, e)
		}
	}
}

// P3.3: Name of each number is the name that stands in the document; of system registers else the form; of all else there is none.
func TestName(t *testing.T) {
	numbers := []int64{math.MinInt64, math.MinInt64 + 1, math.MaxInt64, -1 << 32, 1 << 32, 1<<32 + 1, 1<<32 + 16384, 1 << 16, 1<<16 + 18, -1 << 15}
	for n := int64(-300); n < 1<<15+300; n++ {
		numbers = append(numbers, n)
	}
	for kind, l := range document(t) {
		want := map[int64]string{}
		for n := int64(0); kind == api.KdSys && n < 1<<15; n++ {
			want[n] = formText(n)
		}
		for _, p := range l {
			want[p.n] = p.name
		}
		for _, n := range numbers {
			s, e := names.Name(kind, n)
			w, is := want[n]
			if s != w || (e == api.OK) != is || !is && e != api.ErrName {
				t.Fatalf("Name(%d, %d): %q, %d", kind, n, s, e)
			}
		}
	}
	for _, kind := range noKinds {
		for n := int64(-1); n < 130; n++ {
			if s, e := names.Name(kind, n); s != "" || e != api.ErrName {
				t.Errorf("Name(%d, %d): %q, %d", kind, n, s, e)
			}
		}
	}
}

// P3.4: a word is what Number takes of any kind.
func TestWord(t *testing.T) {
	all := right(t)
	for _, m := range all {
		for s := range m {
			if !names.Word(s) {
				t.Fatalf("Word(%q) does not hold", s)
			}
		}
	}
	for _, s := range some(t) {
		want := false
		for _, m := range all {
			_, is := m[s]
			want = want || is
		}
		if names.Word(s) != want {
			t.Errorf("Word(%q): %v", s, !want)
		}
	}
	for _, s := range wrong {
		if names.Word(s) {
			t.Errorf("Word(%q) holds", s)
		}
	}
	if names.Word(strings.Repeat("x", 1<<20)) || names.Word("x"+strings.Repeat("0", 1<<20)) || names.Word(strings.Repeat("_", 1<<20)) {
		t.Error("a long text is a word")
	}
}

// P3.5: Number of Name is the number; Name of Number is the name, but of three sorts.
func TestThereAndBack(t *testing.T) {
	for kind := range document(t) {
		for n := int64(-2); n < 1<<15+2; n++ {
			s, e := names.Name(kind, n)
			if e != api.OK {
				continue
			}
			if back, e := names.Number(kind, s); back != n || e != api.OK {
				t.Fatal(kind, n, s, back, e)
			}
		}
	}
	for kind, m := range right(t) {
		for s := range m {
			n, _ := names.Number(kind, s)
			back, e := names.Name(kind, n)
			if e != api.OK {
				t.Fatal(kind, s, n, e)
			}
			_, form := formNumber(s)
			other := kind == api.KdCond && (s == "hs" && back == "cs" || s == "lo" && back == "cc")
			if back != s && !other && !(kind == api.KdSys && form && !strings.HasPrefix(back, "s2_") && !strings.HasPrefix(back, "s3_")) {
				t.Fatal(kind, s, n, back)
			}
		}
	}
}

// P3.6: no two names of one number, no two numbers of one name.
func TestOneEach(t *testing.T) {
	for kind := range document(t) {
		byName, byNumber := map[string]int64{}, map[int64]string{}
		for s, n := range names.All(kind) {
			if _, is := byName[s]; is {
				t.Error(kind, s)
			}
			if _, is := byNumber[n]; is {
				t.Error(kind, n)
			}
			byName[s], byNumber[n] = n, s
		}
		if len(byName) == 0 || len(byName) != len(byNumber) {
			t.Error(kind, len(byName), len(byNumber))
		}
	}
}

// The document's examples.
func TestExamples(t *testing.T) {
	if r, e := names.Reg("w30"); r != (api.Reg{N: 30}) || e != api.OK {
		t.Error(r, e)
	}
	if r, e := names.Reg("wsp"); r != (api.Reg{N: 31, SP: true}) || e != api.OK {
		t.Error(r, e)
	}
	if s, e := names.Name(api.KdSys, 0b101101000010000); s != "nzcv" || e != api.OK {
		t.Error(s, e)
	}
	if n, e := names.Number(api.KdSys, "s3_3_c4_c2_0"); n != 0b101101000010000 || e != api.OK {
		t.Error(n, e)
	}
}

func BenchmarkWord(b *testing.B) {
	for b.Loop() {
		names.Word("loop_of_some_name")
	}
}
