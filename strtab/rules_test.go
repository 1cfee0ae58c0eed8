package strtab_test

import (
	"bytes"
	"fmt"
	"slices"
	"strings"
	"testing"

	"cooper/api"
	"cooper/strtab"
)

// The document's rules, written down a second time, in other ways: a table by its names' list, and what is found by looking everywhere.

const most = 1048576 // bytes of a table

// pair is a name, and where it begins.
type pair struct {
	at   int
	name string
}

// ruledFirsts are the names that are not empty, each where it comes first.
func ruledFirsts(names []string) []string {
	var l []string
	for i, name := range names {
		if slices.Index(names, name) == i && name != "" {
			l = append(l, name)
		}
	}
	return l
}

// ruledTable is the table of names that are unlike, and not empty.
func ruledTable(names []string) string {
	return strings.Join(slices.Concat([]string{""}, names, []string{""}), "\x00")
}

// ruledBuild is what Build says.
func ruledBuild(names []string) (string, []int, api.Errno) {
	if strings.Contains(strings.Join(names, ""), "\x00") {
		return "", nil, 6
	}
	tab := ruledTable(ruledFirsts(names))
	if len(tab) > most {
		return "", nil, 3
	}
	var at []int
	for _, name := range names {
		place := 0
		if name != "" {
			place = strings.Index(tab, "\x00"+name+"\x00") + 1
		}
		at = append(at, place)
	}
	return tab, at, 0
}

// ruledNames are the names of a table, or of what may be one.
func ruledNames(tab string) []string {
	if len(tab) < 2 {
		return nil
	}
	return strings.Split(tab[1:len(tab)-1], "\x00")
}

// ruledCheck is what Check says: a table is what its own names come to.
func ruledCheck(tab string) api.Errno {
	if len(tab) > most {
		return 3
	}
	l := ruledNames(tab)
	slices.Sort(l)
	if tab != ruledTable(ruledNames(tab)) || slices.Contains(l, "") || len(slices.Compact(l)) < len(ruledNames(tab)) {
		return 190
	}
	return 0
}

// ruledAt is what At says.
func ruledAt(tab string, off int) (string, api.Errno) {
	if e := ruledCheck(tab); e != 0 {
		return "", e
	}
	if off < 0 || off > len(tab)-1 {
		return "", 7
	}
	name, _, _ := strings.Cut(tab[off:], "\x00")
	return name, 0
}

// ruledPairs is what Names says.
func ruledPairs(tab string) []pair {
	if ruledCheck(tab) != 0 {
		return nil
	}
	var l []pair
	at := 1
	for _, name := range ruledNames(tab) {
		l = append(l, pair{at: at, name: name})
		at += len(name) + 1
	}
	return l
}

// ruledFind is what Find says.
func ruledFind(tab, name string) (int, bool) {
	for _, p := range append(ruledPairs(tab), pair{}) {
		if p.name == name && ruledCheck(tab) == 0 {
			return p.at, true
		}
	}
	return 0, false
}

// short is a text that can be shown.
func short(l ...string) string {
	s := fmt.Sprintf("%q", l)
	if len(s) > 200 {
		s = s[:200] + " .."
	}
	return s
}

// built is what Build answers, held against the rules; nothing that is handed in is changed.
func built(t *testing.T, names ...string) ([]byte, []int, api.Errno) {
	t.Helper()
	was := slices.Clone(names)
	tab, at, e := strtab.Build(names...)
	want, wantAt, wrong := ruledBuild(names)
	if string(tab) != want || !slices.Equal(at, wantAt) || e != wrong {
		t.Fatalf("Build of %s: %s, %v, %d, not %s, %v, %d", short(names...), short(string(tab)), at, e, short(want), wantAt, wrong)
	}
	if e != api.OK && (tab != nil || at != nil) {
		t.Fatalf("Build of %s: %v, %v beside %d", short(names...), tab, at, e)
	}
	if !slices.Equal(names, was) {
		t.Fatalf("Build of %s has changed them", short(was...))
	}
	return tab, at, e
}

// pairs are what Names tells.
func pairs(tab []byte) []pair {
	var l []pair
	for at, name := range strtab.Names(tab) {
		l = append(l, pair{at: at, name: name})
	}
	return l
}

// asked holds all that is asked of a table, or of what is none, against the rules: at these places, by these names.
func asked(t *testing.T, text string, offs []int, names []string) {
	t.Helper()
	tab := []byte(text)
	if e := strtab.Check(tab); e != ruledCheck(text) {
		t.Fatalf("Check of %s: %d, not %d", short(text), e, ruledCheck(text))
	}
	for _, off := range offs {
		want, wrong := ruledAt(text, off)
		if s, e := strtab.At(tab, off); s != want || e != wrong {
			t.Fatalf("At(%s, %d): %s, %d, not %s, %d", short(text), off, short(s), e, short(want), wrong)
		}
	}
	for _, name := range names {
		want, wantIs := ruledFind(text, name)
		if at, is := strtab.Find(tab, name); at != want || is != wantIs {
			t.Fatalf("Find(%s, %s): %d, %t, not %d, %t", short(text), short(name), at, is, want, wantIs)
		}
	}
	if l := pairs(tab); !slices.Equal(l, ruledPairs(text)) {
		t.Fatalf("Names of %s: %v, not %v", short(text), l, ruledPairs(text))
	}
	if !bytes.Equal(tab, []byte(text)) {
		t.Fatalf("%s has become %s", short(text), short(string(tab)))
	}
}

// follows holds what the document says follows against the table of names.
func follows(t *testing.T, names []string) {
	t.Helper()
	tab, at, e := built(t, names...)
	if e != api.OK {
		return
	}
	if e := strtab.Check(tab); e != api.OK {
		t.Fatalf("Check of what Build makes of %s: %d", short(names...), e)
	}
	thereAndBack(t, names, tab, at)
	eachOnce(t, names, tab, at)
	for n := range names {
		first, firstAt, e := strtab.Build(names[:n]...)
		if e != api.OK || !bytes.HasPrefix(tab, first) || !slices.Equal(firstAt, at[:n]) {
			t.Fatalf("Build of the first %d of %s: %s, %v, %d", n, short(names...), short(string(first)), firstAt, e)
		}
	}
}

// P19.3.
func thereAndBack(t *testing.T, names []string, tab []byte, at []int) {
	t.Helper()
	for i, name := range names {
		if s, e := strtab.At(tab, at[i]); s != name || e != api.OK {
			t.Fatalf("At(%s, %d): %s, %d", short(string(tab)), at[i], short(s), e)
		}
		if n, is := strtab.Find(tab, name); n != at[i] || !is {
			t.Fatalf("Find(%s, %s): %d, %t", short(string(tab)), short(name), n, is)
		}
	}
	var own []string
	var ownAt []int
	for at, name := range strtab.Names(tab) {
		own, ownAt = append(own, name), append(ownAt, at)
	}
	again, againAt, e := strtab.Build(own...)
	if !bytes.Equal(again, tab) || !slices.Equal(againAt, ownAt) || !slices.IsSorted(ownAt) || e != api.OK {
		t.Fatalf("Build of the names of %s: %s, %v, %d", short(string(tab)), short(string(again)), againAt, e)
	}
}

// P19.4.
func eachOnce(t *testing.T, names []string, tab []byte, at []int) {
	t.Helper()
	begins := map[string]int{"": 0}
	owners := map[int]string{0: ""}
	size := 1
	for i, name := range names {
		n, has := begins[name]
		other, taken := owners[at[i]]
		if has && n != at[i] || taken && other != name {
			t.Fatalf("Build of %s: %v", short(names...), at)
		}
		if !has {
			size += len(name) + 1
		}
		begins[name], owners[at[i]] = at[i], name
	}
	if len(tab) != size {
		t.Fatalf("Build of %s: %d bytes, not %d", short(names...), len(tab), size)
	}
}
