package strtab_test

import (
	"math/rand/v2"
	"testing"

	"cooper/api"
	"cooper/strtab"
)

func random() *rand.Rand { return rand.New(rand.NewPCG(19, 1)) }

func one[T any](r *rand.Rand, l ...T) T { return l[r.IntN(len(l))] }

func some[T any](r *rand.Rand, most int, draw func(*rand.Rand) T) []T {
	var l []T
	for range r.IntN(most + 1) {
		l = append(l, draw(r))
	}
	return l
}

func drawnName(r *rand.Rand) string {
	return string(some(r, 4, func(r *rand.Rand) byte { return one[byte](r, 'a', 'a', 'b', '.', 'A', 1, 0x80, 0xff) }))
}

// texts are all texts of these bytes, up to a length.
func texts(bytes string, most int) []string {
	l := []string{""}
	for from := 0; most > 0; most-- {
		to := len(l)
		for _, s := range l[from:to] {
			for i := range len(bytes) {
				l = append(l, s+bytes[i:i+1])
			}
		}
		from = to
	}
	return l
}

func row(from, to int) []int {
	var l []int
	for i := from; i <= to; i++ {
		l = append(l, i)
	}
	return l
}

// P19.1 to P19.5: all lists of up to four names of up to two bytes, and of up to seven names of up to one.
func TestListsAll(t *testing.T) {
	goThrough(t, texts("ab\x00", 2), 4)
	goThrough(t, texts("ab\x00", 1), 7)
}

func goThrough(t *testing.T, from []string, most int) {
	t.Helper()
	var deeper func(names []string)
	deeper = func(names []string) {
		follows(t, names)
		if len(names) == most {
			return
		}
		for _, name := range from {
			deeper(append(names[:len(names):len(names)], name))
		}
	}
	deeper(nil)
}

// P19.1, P19.2: all bytes of a few values, up to a length: what Build makes is a table, and nothing else is.
func TestTablesAll(t *testing.T) {
	const length = 10
	made := map[string]int{}
	names := texts("ab", length)
	var deeper func(l []string)
	deeper = func(l []string) {
		tab, _, e := strtab.Build(l...)
		if e != api.OK {
			t.Fatalf("Build of %s: %d", short(l...), e)
		}
		if made[string(tab)]++; made[string(tab)] > 1 {
			return
		}
		for _, name := range names {
			if len(tab)+len(name) < length {
				deeper(append(l[:len(l):len(l)], name))
			}
		}
	}
	deeper(nil)
	tables := 0
	asks := texts("ab\x00", 3)
	for _, text := range texts("ab\x00", length) {
		asked(t, text, row(-2, len(text)+2), asks)
		is := strtab.Check([]byte(text)) == api.OK
		if is != (made[text] > 0) {
			t.Fatalf("Check of %s: %t, made %d times", short(text), is, made[text])
		}
		if is {
			tables++
		}
	}
	if tables != len(made) || tables < 100 {
		t.Errorf("%d tables, %d made", tables, len(made))
	}
}

// P19.1 to P19.5: drawn names.
func TestListsDrawn(t *testing.T) {
	r := random()
	for range 20000 {
		names := some(r, 20, drawnName)
		if r.IntN(8) == 0 {
			names = append(names, drawnName(r)+"\x00"+drawnName(r))
			r.Shuffle(len(names), func(i, j int) { names[i], names[j] = names[j], names[i] })
		}
		follows(t, names)
	}
}

// P19.2: drawn tables, and such of which something is changed.
func TestTablesDrawn(t *testing.T) {
	r := random()
	counts := map[api.Errno]int{}
	for range 20000 {
		names := some(r, 10, drawnName)
		tab, _, _ := strtab.Build(names...)
		switch k := r.IntN(len(tab)); r.IntN(6) {
		case 0:
			tab[k] = one[byte](r, 0, 'a', 'b', 0xff)
		case 1:
			tab = tab[:k]
		case 2:
			tab = tab[k:]
		case 3:
			tab = append(tab, tab[k:]...)
		}
		counts[strtab.Check(tab)]++
		asked(t, string(tab), row(-2, len(tab)+2), append(names, some(r, 5, drawnName)...))
	}
	if counts[api.OK] < 5000 || counts[api.ErrTab] < 5000 || len(counts) != 2 {
		t.Errorf("%v", counts)
	}
}

// P19.1, P19.2: tables of a bit more and a bit less than MaxTab bytes, of drawn names.
func TestLongDrawn(t *testing.T) {
	r := random()
	counts := map[api.Errno]int{}
	for range 30 {
		var names []string
		for size := 1; size < api.MaxTab-30000; {
			name := make([]byte, 1+r.IntN(30000))
			for i := range name {
				name[i] = byte(1 + r.IntN(255))
			}
			names = append(names, string(name))
			size += len(name) + 1
		}
		names = append(names, names[r.IntN(len(names))], "", names[0]+names[1])
		tab, at, e := built(t, names...)
		counts[e]++
		if e == api.OK {
			thereAndBack(t, names, tab, at)
			eachOnce(t, names, tab, at)
		}
	}
	if counts[api.OK] < 5 || counts[api.ErrLong] < 5 || len(counts) != 2 {
		t.Errorf("%v", counts)
	}
}
