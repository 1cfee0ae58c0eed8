package match_test

import (
	"slices"
	"strings"
	"sync"
	"testing"

	"cooper/alias"
	"cooper/api"
	"cooper/inst"
	"cooper/match"
	"cooper/oper"
)

// The document's rules, written down a second time: Norm as a row of changes of which each is a table's, and Find as what the document says of which lines have which instruction.

// isOne tells whether a name is one of these.
func isOne(name, of string) bool { return slices.Contains(strings.Fields(of), name) }

// bare tells whether a value is a number alone, and not only its lowest bits.
func bare(o api.Oper) bool { return o.V == api.Value{Add: o.V.Add} && !o.Lo }

// changes are those of Norm, in their order.
var changes = []func(l *api.Line){
	func(l *api.Line) {
		if other, ok := map[string]string{"b.hs": "b.cs", "b.lo": "b.cc"}[l.Name]; ok {
			l.Name = other
		}
	},
	func(l *api.Line) {
		for i := range l.Opers {
			l.Opers[i] = oper.Plain(l.Opers[i])
		}
	},
	func(l *api.Line) {
		for i, o := range l.Opers {
			if (o.Kind == api.OrReg || o.Kind == api.OrNum) && o.Mod == api.ModLsl && o.Amt == 0 {
				l.Opers[i].Mod = api.ModNone
			}
		}
	},
	func(l *api.Line) {
		n := len(l.Opers)
		if !isOne(l.Name, "mov and orr eor ands tst") || n < 2 || n > 3 || l.Opers[0].Kind != api.OrReg || l.Opers[0].R.X {
			return
		}
		o := &l.Opers[n-1]
		if o.Kind == api.OrNum && o.Mod == api.ModNone && bare(*o) && o.V.Add >= -2147483648 && o.V.Add <= -1 {
			o.V.Add += 4294967296
		}
	},
	func(l *api.Line) {
		n := len(l.Opers)
		if !isOne(l.Name, "add adds sub subs cmp cmn") || n == 0 {
			return
		}
		o := &l.Opers[n-1]
		if o.Kind == api.OrNum && o.Mod == api.ModNone && bare(*o) && o.V.Add >= 4096 && o.V.Add <= 4095*4096 && o.V.Add%4096 == 0 {
			o.V.Add, o.Mod, o.Amt = o.V.Add/4096, api.ModLsl, 12
		}
	},
	func(l *api.Line) {
		other, ok := map[string]string{"str": "stur", "strb": "sturb", "strh": "sturh", "ldr": "ldur", "ldrb": "ldurb", "ldrh": "ldurh", "ldrsb": "ldursb", "ldrsh": "ldursh", "ldrsw": "ldursw", "prfm": "prfum"}[l.Name]
		if !ok || len(l.Opers) != 2 {
			return
		}
		bytes := map[string]int64{"strb": 1, "ldrb": 1, "ldrsb": 1, "strh": 2, "ldrh": 2, "ldrsh": 2, "ldrsw": 4}[l.Name]
		if bytes == 0 {
			bytes = 8
			if l.Opers[0].Kind == api.OrReg && !l.Opers[0].R.X {
				bytes = 4
			}
		}
		o := l.Opers[1]
		if o.Kind == api.OrMem && o.Mode == api.MmOff && bare(o) && o.V.Add >= -256 && o.V.Add <= 255 && (o.V.Add < 0 || o.V.Add%bytes != 0) {
			l.Name = other
		}
	},
}

// ruledNorm is what Norm says.
func ruledNorm(l api.Line) api.Line {
	n := api.Line{Name: l.Name, Opers: slices.Clone(l.Opers)}
	for _, change := range changes {
		change(&n)
	}
	return n
}

// ruledHole is what Hole says.
func ruledHole(x api.Inst, low bool) (api.Hole, bool) {
	for _, row := range []struct {
		low  bool
		is   bool
		hole api.Hole
	}{
		{false, x.Op == 8 && !x.S, api.Hole{Kind: 1}},
		{false, x.Op == 8 && x.S, api.Hole{Kind: 2}},
		{false, x.Op == 7 || x.Op == 9, api.Hole{Kind: 3}},
		{false, x.Op == 10, api.Hole{Kind: 4}},
		{false, x.Op == 18, api.Hole{Kind: 5}},
		{false, x.Op == 1 && !x.X, api.Hole{Kind: 6}},
		{false, x.Op == 1 && x.X, api.Hole{Kind: 7}},
		{true, x.Op == 2 && x.B == 0 && !x.S && x.C == 0, api.Hole{Kind: 8}},
		{true, x.Op == 20, api.Hole{Kind: 9, Size: int(x.B)}},
	} {
		if row.low == low && row.is {
			return row.hole, true
		}
	}
	return api.Hole{}, false
}

// open are the numbers of those operands that have symbols, or Lo.
func open(l api.Line) []int {
	var all []int
	for i, o := range l.Opers {
		if o.Lo || o.V.Plus+o.V.Minus != "" {
			all = append(all, i)
		}
	}
	return all
}

// isInstLine tells whether a line is an instruction's, by P12.3.
func isInstLine(l api.Line, x api.Inst) bool {
	plain, e1 := alias.Plain(x)
	preferred, e2 := alias.Line(x)
	n := key(ruledNorm(l))
	return inst.Check(x) == api.OK && e1 == api.OK && e2 == api.OK && (n == key(ruledNorm(plain)) || n == key(ruledNorm(preferred)))
}

// known are instructions by their lines, as Norm makes them.
type known map[string]api.Inst

// keys are of both lines of an instruction.
func keys(x api.Inst) []string {
	plain, _ := alias.Plain(x)
	preferred, _ := alias.Line(x)
	return []string{key(ruledNorm(plain)), key(ruledNorm(preferred))}
}

// usualLines are the lines of all instructions of usual numbers.
var usualLines = sync.OnceValue(func() known {
	k := known{}
	for x := range usualInsts() {
		for _, at := range keys(x) {
			k[at] = x
		}
	}
	return k
})

// holdAlone holds an instruction's lines against those of others: no other one has them.
func (k known) holdAlone(t *testing.T, x api.Inst) {
	t.Helper()
	for _, at := range keys(x) {
		if other, ok := k[at]; ok && other != x {
			t.Fatalf("%s is of both %+v and %+v", at, x, other)
		}
		k[at] = x
	}
}

// hold holds what Find answers of a line against the document: what is found is it, what is known is found, and a line with symbols is as the document makes it of one without.
func (k known) hold(t *testing.T, l api.Line) api.Errno {
	t.Helper()
	x, h, e := match.Find(l)
	if e != api.OK && (x != api.Inst{} || h != api.Hole{}) {
		t.Fatalf("Find(%s): %+v, %+v beside %d", text(l), x, h, e)
	}
	if len(open(l)) > 0 {
		k.holdOpen(t, l, x, h, e)
		return e
	}
	want, ok := k[key(ruledNorm(l))]
	switch {
	case e == api.OK && (!isInstLine(l, x) || h != api.Hole{}):
		t.Fatalf("Find(%s): %+v, %+v, whose line it is not", text(l), x, h)
	case ok && (e != api.OK || x != want):
		t.Fatalf("Find(%s): %+v, %d, not %+v", text(l), x, e, want)
	case e != api.OK && e != api.ErrMatch:
		t.Fatalf("Find(%s): %d", text(l), e)
	}
	return e
}

// holdOpen holds what Find answers of a line with symbols, or Lo.
func (k known) holdOpen(t *testing.T, l api.Line, x api.Inst, h api.Hole, e api.Errno) {
	t.Helper()
	at := open(l)
	o := l.Opers[at[0]]
	if len(at) > 1 || o.Kind != api.OrTo && !o.Lo {
		if e != api.ErrSymbol {
			t.Fatalf("Find(%s): %d, not ErrSymbol", text(l), e)
		}
		return
	}
	closed := api.Line{Name: l.Name, Opers: slices.Clone(l.Opers)}
	closed.Opers[at[0]] = num(0)
	if o.Kind != api.OrTo {
		closed.Opers[at[0]] = o
		closed.Opers[at[0]].V = api.Value{}
		closed.Opers[at[0]].Lo = false
	}
	of, _, wrong := match.Find(closed)
	k.hold(t, closed)
	want, has := ruledHole(of, o.Lo)
	want.V = o.V
	switch {
	case wrong != api.OK:
		has = false
	case !has:
		wrong = api.ErrMatch
	}
	if e != wrong || has && (x != of || h != want) {
		t.Fatalf("Find(%s): %+v, %+v, %d, not %+v, %+v, %d", text(l), x, h, e, of, want, wrong)
	}
}
