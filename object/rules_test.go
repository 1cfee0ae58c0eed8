package object_test

import (
	"fmt"
	"slices"
	"strings"
	"testing"

	"cooper/api"
	"cooper/object"
)

// The document's rules, written down a second time, in other ways: with its numbers, and each held against each other.

// ruledKind is what KindOf says.
func ruledKind(name string) int {
	if parts := strings.SplitN(name, ".", 3); len(parts) > 1 && parts[0] == "" {
		switch parts[1] {
		case "text":
			return 1
		case "rodata":
			return 3
		case "bss":
			return 4
		}
	}
	return 2
}

// ruledWidths are the bytes of each relocation that there is.
func ruledWidths() map[int]int {
	return map[int]int{
		257: 8, 258: 4, 259: 2, 260: 8, 261: 4, 262: 2,
		273: 4, 274: 4, 275: 4, 277: 4, 278: 4, 279: 4, 280: 4, 282: 4, 283: 4, 284: 4, 285: 4, 286: 4,
	}
}

// ruledSection tells whether a section of an object may be.
func ruledSection(o api.Object, x api.Section) bool {
	name := 0
	for _, b := range []byte(x.Name) {
		if b < 33 || b > 126 {
			return false
		}
		name++
	}
	if name == 0 || name > 32 || x.Kind != ruledKind(x.Name) || !slices.Contains([]int64{1, 2, 4, 8, 16, 32, 64, 128, 256, 512, 1024, 2048, 4096}, x.Align) {
		return false
	}
	if x.Size < 0 || x.Size > 1048576 {
		return false
	}
	if x.Kind == 4 {
		return len(x.Data) == 0 && len(x.Relocs) == 0
	}
	if len(x.Data) != int(x.Size) || len(x.Relocs) > 4096 {
		return false
	}
	// Whose each byte is: no two relocations change one.
	changed := make([]bool, x.Size)
	behind := int64(-1)
	for _, r := range x.Relocs {
		width, is := ruledWidths()[r.Type]
		if !is || r.Sym < 0 || r.Sym >= len(o.Symbols) || r.Off <= behind || r.Type >= 273 && r.Off&3 != 0 {
			return false
		}
		for i := range int64(width) {
			if r.Off >= x.Size || r.Off+i >= x.Size || changed[r.Off+i] {
				return false
			}
			changed[r.Off+i] = true
		}
		behind = r.Off
	}
	return true
}

// ruledSymbol tells whether a symbol of an object may be.
func ruledSymbol(o api.Object, x api.Symbol) bool {
	if x.Name == "" || len(x.Name) > 255 || strings.Contains(x.Name, "\x00") {
		return false
	}
	for i, s := range o.Sections {
		if x.Section == i {
			return x.Value >= 0 && x.Value <= s.Size
		}
	}
	return x.Section == -2 || x.Section == -1 && x.Global && x.Value == 0
}

// ruledAhead tells whether a symbol must stand ahead of another one.
func ruledAhead(a, b api.Symbol) bool {
	return !a.Global && b.Global || a.Global == b.Global && a.Name < b.Name
}

// ruledCheck is what Check says.
func ruledCheck(o api.Object) api.Errno {
	may := len(o.Sections) <= 64 && len(o.Symbols) <= 4096
	for i, x := range o.Sections {
		may = may && ruledSection(o, x)
		for _, y := range o.Sections[:i] {
			may = may && x.Name != y.Name
		}
	}
	for i, x := range o.Symbols {
		may = may && ruledSymbol(o, x)
		if !may {
			break
		}
		for _, y := range o.Symbols[:i] {
			may = may && x.Name != y.Name && ruledAhead(y, x)
		}
	}
	if !may {
		return 140
	}
	return 0
}

// ruledNorm is what Norm says: each symbol's new number is how many stand ahead of it.
func ruledNorm(o api.Object) api.Object {
	n := deep(o)
	to := make([]int, len(o.Symbols))
	for i, x := range o.Symbols {
		for j, y := range o.Symbols {
			if ruledAhead(y, x) || j < i && !ruledAhead(x, y) {
				to[i]++
			}
		}
		n.Symbols[to[i]] = x
	}
	for _, s := range n.Sections {
		for i := range s.Relocs {
			for from := range to {
				if s.Relocs[i].Sym == from {
					s.Relocs[i].Sym = to[from]
					break
				}
			}
		}
	}
	return n
}

// ruledAt is what At says.
func ruledAt(o api.Object, section int, off int64) (int, bool) {
	for i, x := range o.Symbols {
		may := func(y api.Symbol) bool { return y.Section == section && y.Value <= off }
		more := func(y api.Symbol) bool { return may(y) && y.Value > x.Value }
		if may(x) && !slices.ContainsFunc(o.Symbols, more) {
			return i, true
		}
	}
	return 0, false
}

// text is an object as a text in which nil and empty lists are the same.
func text(o api.Object) string {
	var l []string
	for _, s := range o.Sections {
		l = append(l, fmt.Sprintf("%q %d %d %d %x %v", s.Name, s.Kind, s.Align, s.Size, s.Data, s.Relocs))
	}
	for _, s := range o.Symbols {
		l = append(l, fmt.Sprintf("%q %d %d %t", s.Name, s.Section, s.Value, s.Global))
	}
	return fmt.Sprintf("%d sections, %d symbols: %s", len(o.Sections), len(o.Symbols), strings.Join(l, "; "))
}

func short(o api.Object) string { return fmt.Sprintf("%.3000s", text(o)) }

// deep is an object in memory of its own.
func deep(o api.Object) api.Object {
	var c api.Object
	for _, s := range o.Sections {
		s.Data = append([]byte{}, s.Data...)
		s.Relocs = append([]api.Reloc{}, s.Relocs...)
		c.Sections = append(c.Sections, s)
	}
	c.Symbols = append(c.Symbols, o.Symbols...)
	return c
}

// spoil changes all that an object's lists hold.
func spoil(o api.Object) {
	for i, s := range o.Sections {
		for j := range s.Data {
			s.Data[j] ^= 0xff
		}
		for j := range s.Relocs {
			s.Relocs[j] = api.Reloc{Off: -1, Type: -2, Sym: -3, Addend: -4}
		}
		o.Sections[i] = api.Section{Name: "spoiled", Kind: -1}
	}
	for i := range o.Symbols {
		o.Symbols[i] = api.Symbol{Name: "spoiled", Section: -9, Value: -9}
	}
}

// hold holds what is answered of an object against the document.
func hold(t *testing.T, o api.Object) {
	t.Helper()
	was := text(o)
	want := ruledCheck(o)
	if got := object.Check(o); got != want {
		t.Fatalf("Check of %s: %d, not %d", short(o), got, want)
	}
	ordered(t, o)
	found(t, o)
	c := object.Clone(o)
	if text(c) != was || !object.Same(c, o) || !object.Same(o, c) || !object.Same(o, o) {
		t.Fatalf("Clone of %s: %s", short(o), short(c))
	}
	if len(o.Sections)+len(o.Symbols) > 0 {
		spoil(c)
		if object.Same(c, o) || object.Same(o, c) {
			t.Fatalf("Same of %s and %s", short(o), short(c))
		}
	}
	if text(o) != was {
		t.Fatalf("%s: changed, it was %.3000s", short(o), was)
	}
}

// ordered holds Norm against the document, P14.4 and P14.6.
func ordered(t *testing.T, o api.Object) {
	t.Helper()
	was := text(o)
	n := object.Norm(o)
	want := ruledNorm(o)
	if text(n) != text(want) {
		t.Fatalf("Norm of %s: %s, not %s", short(o), short(n), short(want))
	}
	if again := object.Norm(n); text(again) != text(n) || !object.Same(again, n) {
		t.Fatalf("Norm of Norm of %s: %s, not %s", short(o), short(again), short(n))
	}
	if object.Check(o) == api.OK && text(n) != was {
		t.Fatalf("Norm of %s, which may be: %s", short(o), short(n))
	}
	if object.Same(n, o) != (text(n) == was) {
		t.Fatalf("Same of %s and %s", short(o), short(n))
	}
	spoil(n)
	if text(o) != was {
		t.Fatalf("Norm changed %.3000s: %s", was, short(o))
	}
}

// found holds what is found by a name or a place against the document, and P14.5.
func found(t *testing.T, o api.Object) {
	t.Helper()
	may := object.Check(o) == api.OK
	var outside []string
	for i, s := range o.Symbols {
		if s.Section == -1 {
			outside = append(outside, s.Name)
		}
		k, is := object.Find(o, s.Name)
		if !is || o.Symbols[k].Name != s.Name || slices.ContainsFunc(o.Symbols[:k], func(x api.Symbol) bool { return x.Name == s.Name }) || may && k != i {
			t.Fatalf("Find of %q in %s: %d, %t", s.Name, short(o), k, is)
		}
	}
	for i, s := range o.Sections {
		k, is := object.Section(o, s.Name)
		if !is || o.Sections[k].Name != s.Name || slices.ContainsFunc(o.Sections[:k], func(x api.Section) bool { return x.Name == s.Name }) || may && k != i {
			t.Fatalf("Section of %q in %s: %d, %t", s.Name, short(o), k, is)
		}
	}
	if got := slices.Collect(object.Undefined(o)); !slices.Equal(got, outside) {
		t.Fatalf("Undefined of %s: %q, not %q", short(o), got, outside)
	}
}
