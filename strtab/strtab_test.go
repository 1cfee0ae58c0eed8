package strtab_test

import (
	"bytes"
	"iter"
	"math"
	"slices"
	"strings"
	"testing"
	"time"

	"cooper/api"
	"cooper/strtab"
)

// P19.1: tables, and where names begin in them.
func TestBuild(t *testing.T) {
	for _, c := range []struct {
		names []string
		tab   string
		at    []int
	}{
		{nil, "\x00", nil},
		{[]string{}, "\x00", nil},
		{[]string{""}, "\x00", []int{0}},
		{[]string{"", "", ""}, "\x00", []int{0, 0, 0}},
		{[]string{"a"}, "\x00a\x00", []int{1}},
		{[]string{"a", "bc", "a"}, "\x00a\x00bc\x00", []int{1, 3, 1}},
		{[]string{"", "a", "", "a"}, "\x00a\x00", []int{0, 1, 0, 1}},
		{[]string{"b", "a"}, "\x00b\x00a\x00", []int{1, 3}},
		{[]string{"main", "in", "n", "mai"}, "\x00main\x00in\x00n\x00mai\x00", []int{1, 6, 9, 11}},
		{[]string{"a", "A", " a", "a ", " "}, "\x00a\x00A\x00 a\x00a \x00 \x00", []int{1, 3, 5, 8, 11}},
		{[]string{".rela.text", ".text", ".rela.text"}, "\x00.rela.text\x00.text\x00", []int{1, 12, 1}},
		{[]string{"\x01", "\xff", "\xff\xff", "\xc3"}, "\x00\x01\x00\xff\x00\xff\xff\x00\xc3\x00", []int{1, 3, 5, 8}},
		{[]string{"é", "e\u0301", "\ufffd", "\xfe"}, "\x00é\x00e\u0301\x00\ufffd\x00\xfe\x00", []int{1, 4, 8, 12}},
	} {
		tab, at, e := built(t, c.names...)
		if string(tab) != c.tab || !slices.Equal(at, c.at) || e != api.OK {
			t.Errorf("Build of %s: %s, %v, %d, not %s, %v", short(c.names...), short(string(tab)), at, e, short(c.tab), c.at)
		}
		follows(t, c.names)
	}
}

// P19.1: no name has a byte 0, wherever it is, and whatever else is wrong.
func TestBuildForm(t *testing.T) {
	long := strings.Repeat("a", api.MaxTab)
	for _, names := range [][]string{
		{"\x00"}, {"a\x00"}, {"\x00a"}, {"a\x00b"}, {"a", "b\x00"}, {"\x00", "a"}, {"", "a", "a", "\x00\x00"},
		{long, "\x00"}, {"\x00", long}, {long + "\x00"}, {"\x00" + long}, {long, long, "b", "a\x00b"},
	} {
		if tab, at, e := built(t, names...); tab != nil || at != nil || e != api.ErrForm {
			t.Errorf("Build of %s: %s, %v, %d", short(names...), short(string(tab)), at, e)
		}
	}
}

// numbered are as many names as there are, unlike each other, each of 7 bytes, so that each takes 8.
func numbered(many int) []string {
	var l []string
	for i := range many {
		name := []byte("aaaaaaa")
		for k := range name {
			name[k] += byte(i % 16)
			i /= 16
		}
		l = append(l, string(name))
	}
	return l
}

// P19.1: a table has MaxTab bytes at most, of one name or of many; what stands there already takes no room.
func TestBuildLong(t *testing.T) {
	whole := strings.Repeat("a", api.MaxTab-2)
	many := numbered(api.MaxTab/8 - 1)
	for _, c := range []struct {
		what  string
		names []string
		size  int
	}{
		{"one name", []string{whole}, api.MaxTab},
		{"one name, one byte less", []string{whole[1:]}, api.MaxTab - 1},
		{"one name, twice", []string{whole, whole, "", whole}, api.MaxTab},
		{"one name and a byte", []string{whole + "a"}, 0},
		{"a byte more than a table", []string{whole + "aaa"}, 0},
		{"sixteen tables", []string{strings.Repeat(whole, 16)}, 0},
		{"a name behind all", []string{whole, "b"}, 0},
		{"a name ahead of all", []string{"b", whole}, 0},
		{"nothing behind all but two bytes", []string{whole[2:], "", whole[2:]}, api.MaxTab - 2},
		{"a name of a byte behind all but two bytes", []string{whole[2:], "b"}, api.MaxTab},
		{"one of two bytes there", []string{whole[2:], "bc"}, 0},
		{"a name behind what is too long", []string{whole + "a", "b"}, 0},
		{"half and half", []string{whole[api.MaxTab/2:], "b" + whole[api.MaxTab/2:]}, api.MaxTab},
		{"half and more", []string{whole[api.MaxTab/2:], "bc" + whole[api.MaxTab/2:]}, 0},
		{"many", many, api.MaxTab - 7},
		{"many and six bytes", append(slices.Clone(many), "bbbbbb"), api.MaxTab},
		{"many and seven bytes", append(slices.Clone(many), "7654321"), 0},
		{"many twice", slices.Concat(many, many), api.MaxTab - 7},
	} {
		tab, at, e := strtab.Build(c.names...)
		if c.size == 0 {
			if tab != nil || at != nil || e != api.ErrLong {
				t.Errorf("Build of %s: %d bytes, %d places, %d", c.what, len(tab), len(at), e)
			}
			continue
		}
		if len(tab) != c.size || len(at) != len(c.names) || e != api.OK || strtab.Check(tab) != api.OK {
			t.Errorf("Build of %s: %d bytes, %d places, %d", c.what, len(tab), len(at), e)
			continue
		}
		for i, name := range c.names {
			if end := at[i] + len(name); string(tab[at[i]:end]) != name || tab[end] != 0 {
				t.Fatalf("Build of %s: %s begins at %d", c.what, short(name), at[i])
			}
		}
	}
}

// P19.1: what is a table, and what is none.
func TestCheck(t *testing.T) {
	for _, tab := range []string{
		"\x00", "\x00a\x00", "\x00a\x00b\x00", "\x00b\x00a\x00", "\x00a\x00aa\x00aaa\x00", "\x00aa\x00a\x00", "\x00\xff\x00\x01\x00", "\x00é\x00",
	} {
		asked(t, tab, []int{0, 1, len(tab) - 1, len(tab)}, []string{"", "a"})
		if e := strtab.Check([]byte(tab)); e != api.OK {
			t.Errorf("Check of %s: %d", short(tab), e)
		}
	}
	for _, tab := range []string{
		"", "a", "\x00a", "a\x00", "ab\x00", "\x00\x00", "\x00\x00\x00", "\x00\x00a\x00", "\x00a\x00\x00", "\x00a\x00\x00b\x00", "\x00a\x00b",
		"\x00a\x00a\x00", "\x00a\x00b\x00a\x00", "\x00b\x00a\x00a\x00", "\x00ab\x00c\x00ab\x00d\x00", "a\x00b\x00", "\xff\x00", "\x00\xff",
	} {
		asked(t, tab, []int{-1, 0, 1, len(tab) - 1, len(tab)}, []string{"", "a", "b", tab})
		if e := strtab.Check([]byte(tab)); e != api.ErrTab {
			t.Errorf("Check of %s: %d", short(tab), e)
		}
	}
	if e := strtab.Check(nil); e != api.ErrTab {
		t.Errorf("Check of nil: %d", e)
	}
}

// P19.1, P19.2: a table of MaxTab bytes is one, one byte more is too long, whatever it is else; what is asked of it answers so.
func TestCheckLong(t *testing.T) {
	name := strings.Repeat("a", api.MaxTab-2)
	whole := "\x00" + name + "\x00"
	asked(t, whole, []int{-1, 0, 1, 2, api.MaxTab - 2, api.MaxTab - 1, api.MaxTab}, []string{"", "a", name, name[1:], name + "a"})
	for _, c := range []struct {
		tab  string
		want api.Errno
	}{
		{whole, api.OK},
		{whole[1:], api.ErrTab},
		{name + "aa", api.ErrTab},
		{"\x00a" + whole[1:], api.ErrLong},
		{whole + "\x00", api.ErrLong},
		{name + "aaa", api.ErrLong},
		{strings.Repeat("\x00", api.MaxTab), api.ErrTab},
		{strings.Repeat("\x00", api.MaxTab+1), api.ErrLong},
		{strings.Repeat(whole, 3), api.ErrLong},
	} {
		tab := []byte(c.tab)
		if e := strtab.Check(tab); e != c.want {
			t.Errorf("Check of %d bytes, %s: %d, not %d", len(tab), short(c.tab), e, c.want)
		}
		if c.want == api.OK {
			continue
		}
		for _, off := range []int{-1, 0, 1, len(tab)} {
			if s, e := strtab.At(tab, off); s != "" || e != c.want {
				t.Errorf("At(%s, %d): %s, %d, not %d", short(c.tab), off, short(s), e, c.want)
			}
		}
		for _, asks := range []string{"", name, "a" + name} {
			if at, is := strtab.Find(tab, asks); at != 0 || is {
				t.Errorf("Find(%s, %s): %d, %t", short(c.tab), short(asks), at, is)
			}
		}
		if l := pairs(tab); l != nil {
			t.Errorf("Names of %s: %d", short(c.tab), len(l))
		}
	}
}

// P19.2: what stands at each place.
func TestAt(t *testing.T) {
	tab := "\x00main\x00b\x00"
	wants := []string{"", "main", "ain", "in", "n", "", "b", ""}
	for off, want := range wants {
		if s, e := strtab.At([]byte(tab), off); s != want || e != api.OK {
			t.Errorf("At(%s, %d): %s, %d", short(tab), off, short(s), e)
		}
	}
	for _, off := range []int{-1, 8, 9, math.MinInt, math.MaxInt, 1 << 32, -8} {
		if s, e := strtab.At([]byte(tab), off); s != "" || e != api.ErrRange {
			t.Errorf("At(%s, %d): %s, %d", short(tab), off, short(s), e)
		}
		if s, e := strtab.At([]byte(tab[1:]), off); s != "" || e != api.ErrTab {
			t.Errorf("At(%s, %d): %s, %d", short(tab[1:]), off, short(s), e)
		}
	}
	asked(t, "\x00", []int{math.MinInt, -1, 0, 1, 2, math.MaxInt}, []string{"", "\x00"})
}

// P19.2: whole names alone are found.
func TestFind(t *testing.T) {
	tab := []byte("\x00main\x00in\x00mai\x00b\x00ma\x00")
	for name, want := range map[string]int{"": 0, "main": 1, "in": 6, "mai": 9, "b": 13, "ma": 15} {
		if at, is := strtab.Find(tab, name); at != want || !is {
			t.Errorf("Find of %s: %d, %t", short(name), at, is)
		}
	}
	for _, name := range []string{
		"m", "a", "n", "ain", "ai", "Main", "main ", " main", "mainin", "c", "\x00", "\x00main", "main\x00", "\x00main\x00", "main\x00in", "in\x00mai", "b\x00", "\x00\x00",
		string(tab), string(tab[1:]), "\xff", strings.Repeat("b", 1<<20),
	} {
		if at, is := strtab.Find(tab, name); at != 0 || is {
			t.Errorf("Find of %s: %d, %t", short(name), at, is)
		}
	}
}

// P19.2: names, and where they begin, rising; the empty one is none of them.
func TestNames(t *testing.T) {
	tab := []byte("\x00main\x00b\x00a\x00in\x00")
	want := []pair{{1, "main"}, {6, "b"}, {8, "a"}, {10, "in"}}
	all := strtab.Names(tab)
	for range 2 {
		if l := collected(all, len(want)+1); !slices.Equal(l, want) {
			t.Errorf("Names: %v", l)
		}
	}
	for stop := range want {
		if l := collected(all, stop+1); !slices.Equal(l, want[:stop+1]) {
			t.Errorf("Names up to the %d.: %v", stop, l)
		}
	}
	n := 0
	for range all {
		n += len(collected(all, len(want)))
	}
	if n != len(want)*len(want) {
		t.Errorf("Names within Names: %d", n)
	}
	for _, none := range []string{"\x00", "", "\x00\x00", "\x00a", "a\x00", "\x00a\x00a\x00", "\x00a\x00b\x00\x00"} {
		if l := pairs([]byte(none)); l != nil {
			t.Errorf("Names of %s: %v", short(none), l)
		}
	}
}

// collected are as many as stop, at most.
func collected(all iter.Seq2[int, string], stop int) []pair {
	var l []pair
	for at, name := range all {
		l = append(l, pair{at: at, name: name})
		if len(l) == stop {
			break
		}
	}
	return l
}

// R3: what is answered is nobody's else, and what is handed in may be changed behind.
func TestOwn(t *testing.T) {
	names := []string{"main", "b", "main"}
	tab, at, _ := strtab.Build(names...)
	other, otherAt, _ := strtab.Build(names...)
	all := strtab.Names(tab)
	main, _ := strtab.At(tab, 1)
	for i := range tab {
		tab[i] = 'x'
	}
	at[0], at[1], at[2] = 7, 7, 7
	if string(other) != "\x00main\x00b\x00" || !slices.Equal(otherAt, []int{1, 6, 1}) || main != "main" {
		t.Errorf("%q, %v, %q", other, otherAt, main)
	}
	want := []pair{{1, "main"}, {6, "b"}}
	if l := collected(all, 3); !slices.Equal(l, want) {
		t.Errorf("Names of what was: %v", l)
	}
	if pairs(tab) != nil {
		t.Errorf("Names of %q", tab)
	}
	all = strtab.Names(tab)
	copy(tab, other)
	if l := collected(all, 3); l != nil {
		t.Errorf("Names of what was no table: %v", l)
	}
	all = strtab.Names(tab)
	var l []pair
	for at, name := range all {
		clear(tab)
		l = append(l, pair{at, name})
	}
	if !slices.Equal(l, want) {
		t.Errorf("Names of what is cleared: %v", l)
	}
	names[0] = "c"
	if again, _, _ := strtab.Build("main", "b"); !bytes.Equal(again, other) {
		t.Errorf("%q", again)
	}
}

// The bound: many names, many of them the same, long ones that begin alike; tables as full as may be.
func TestBound(t *testing.T) {
	begin := time.Now()
	same := slices.Repeat([]string{strings.Repeat("a", 1000)}, 1<<18)
	if tab, at, e := strtab.Build(same...); len(tab) != 1002 || len(at) != 1<<18 || at[1<<18-1] != 1 || e != api.OK {
		t.Errorf("Build of one name: %d bytes, %d places, %d", len(tab), len(at), e)
	}
	many := slices.Repeat(numbered(api.MaxTab/8-1), 20)
	tab, at, e := strtab.Build(many...)
	if len(tab) != api.MaxTab-7 || len(at) != len(many) || e != api.OK {
		t.Errorf("Build of many: %d bytes, %d places, %d", len(tab), len(at), e)
	}
	for i, name := range many[:50] {
		if n, is := strtab.Find(tab, name); n != at[i] || !is {
			t.Errorf("Find of %q: %d, %t", name, n, is)
		}
		if s, e := strtab.At(tab, at[i]); s != name || e != api.OK {
			t.Errorf("At(%d): %q, %d", at[i], s, e)
		}
	}
	if l := pairs(tab); len(l) != api.MaxTab/8-1 {
		t.Errorf("Names of many: %d", len(l))
	}
	var alike []string
	for n := range 1400 {
		alike = append(alike, strings.Repeat("a", n+1))
	}
	tab, _, e = strtab.Build(alike...)
	if len(pairs(tab)) != 1400 || e != api.OK {
		t.Errorf("Build of what begins alike: %d bytes, %d", len(tab), e)
	}
	if took := time.Since(begin); took > 20*time.Second {
		t.Errorf("it took %v", took)
	}
}

// The document's example.
func TestExample(t *testing.T) {
	tab, at, e := strtab.Build("a", "bc", "a")
	if !bytes.Equal(tab, []byte{0, 0x61, 0, 0x62, 0x63, 0}) || !slices.Equal(at, []int{1, 3, 1}) || e != api.OK {
		t.Errorf("Build of a, bc, a: %x, %v, %d", tab, at, e)
	}
}
