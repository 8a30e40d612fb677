package labels

import (
	"math/rand"
	"slices"
	"testing"

	"tocsin/api"
)

// TestValue: P7.4: the first one's of that name; nothing, if there is none.
func TestValue(t *testing.T) {
	for _, c := range []struct {
		l          []api.Label
		name, want string
	}{
		{row("a", "x", "b", "y"), "b", "y"}, {row("a", "x", "b", "y"), "c", ""}, {row("a", "x", "b", "y"), "a", "x"}, {row("a", "x", "b", "y"), "", ""},
		{nil, "a", ""}, {nil, "", ""}, {row(), "a", ""},
		{row("a", "x", "a", "y"), "a", "x"}, {row("b", "z", "a", "x", "a", "y"), "a", "x"}, {row("a", "", "a", "y"), "a", ""},
		{row("", "x"), "", "x"}, {row("a", "z", "", "x", "", "y"), "", "x"}, {row("", "x"), "a", ""},
		{row("ab", "x"), "a", ""}, {row("a", "x"), "ab", ""}, {row("a", "x"), "A", ""}, {row("x", "a"), "a", ""}, {row("a ", "x"), "a", ""},
		{row("a\x00", "x"), "a", ""}, {row("\xff", "x"), "\xff", "x"}, {row("\xff", "x"), "\xfe", ""}, {row("\xff", "x"), "\ufffd", ""},
		{row("a", "1", "b", "2", "c", "3", "d", "4", "e", "5", "f", "6"), "f", "6"},
	} {
		if got := Value(c.l, c.name); got != c.want {
			t.Errorf("Value of %q, %q: %q, want %q", c.l, c.name, got, c.want)
		}
	}
}

// TestValueDrawn: P7.4, by the words.
func TestValueDrawn(t *testing.T) {
	r := rand.New(rand.NewSource(7))
	_, names := someNames()
	for range 3000 {
		l := someRow(r, false)
		for _, name := range names {
			if got, want := Value(l, name), wantValue(l, name); got != want {
				t.Errorf("Value of %q, %q: %q, want %q", l, name, got, want)
			}
		}
	}
}

// TestLess: P7.5: the chapter's table, and the edges: each pair the other way round too.
func TestLess(t *testing.T) {
	for _, c := range []struct{ a, b []api.Label }{
		{nil, row("a", "x")}, {nil, row("", "")}, {row("a", "x"), row("a", "y")}, {row("a", "z"), row("b", "a")},
		{row("a", "x"), row("a", "x", "b", "x")}, {row("a", "x"), row("a", "x", "", "")}, {row("a", "x"), row("a", "x", "a", "x")},
		{row("a", "x", "b", "x", "c", "x"), row("a", "y")}, {row("a", "x", "z", "z"), row("b", "a")}, {row("a", "x", "b", "x"), row("a", "x", "c", "a")},
		{row("a", "x", "b", "x"), row("a", "x", "b", "y")}, {row("a", "x", "b", "z", "c", "z"), row("a", "x", "c", "a")},
		{row("a", "x"), row("aa", "a")}, {row("a", "x"), row("a", "xx")}, {row("a", ""), row("a", "x")}, {row("", "x"), row("a", "")}, {row("", ""), row("", "x")},
		{row("a0", "x"), row("a_", "x")}, {row("a_", "x"), row("aa", "x")}, {row("A", "x"), row("a", "x")}, {row("a", "10"), row("a", "9")},
		{row("z", "x"), row("\x80", "x")}, {row("a", "~"), row("a", "\xff")}, {row("a", "\xfe"), row("a", "\xff")}, {row("a", "\ufffd"), row("a", "\xff")}, {row("a", "日"), row("a", "\xf0")},
		{row("b", "x", "a", "y"), row("b", "x", "a", "z")}, {row("a", "x", "a", "y"), row("a", "y", "a", "x")}, {row("a", "b"), row("ab", "")}, {row("a", "~~"), row("a ", "")},
		{row("a", "1", "b", "2", "c", "3", "d", "4", "e", "5"), row("a", "1", "b", "2", "c", "3", "d", "4", "e", "6")}, {row("a", "1", "b", "2", "c", "3", "d", "4"), row("a", "1", "b", "2", "c", "3", "d", "4", "e", "6")},
	} {
		check(t, "the words", wantCompare(c.a, c.b) < 0)
		if !Less(c.a, c.b) || Less(c.b, c.a) {
			t.Errorf("Less of %q, %q: %v, the other way round %v", c.a, c.b, Less(c.a, c.b), Less(c.b, c.a))
		}
		for _, l := range [][]api.Label{c.a, c.b} {
			check(t, "a row and itself", !Less(l, l) && !Less(l, slices.Clone(l)))
		}
	}
	check(t, "no labels", !Less(nil, nil) && !Less(row(), nil) && !Less(nil, row("a", "x")[:0]) && !Less(row("a", "x"), row("a", "x")))
}

// shortRows is all rows of up to n labels of a few names and values, those that may not be too.
func shortRows(n int) [][]api.Label {
	all, longest := [][]api.Label{nil}, [][]api.Label{nil}
	for range n {
		var longer [][]api.Label
		for _, l := range longest {
			for _, name := range []string{"", "a", "ab", "b"} {
				for _, value := range []string{"", "x", "y"} {
					longer = append(longer, append(slices.Clone(l), api.Label{Name: name, Value: value}))
				}
			}
		}
		all, longest = append(all, longer...), longer
	}
	return all
}

// wantLess holds Less of two rows, both ways, against the words.
func wantLess(t *testing.T, a, b []api.Label) {
	t.Helper()
	c := wantCompare(a, b)
	if Less(a, b) != (c < 0) || Less(b, a) != (c > 0) {
		t.Errorf("Less of %q, %q: %v, the other way round %v", a, b, Less(a, b), Less(b, a))
	}
}

// TestLessShort: P7.5: all pairs of short rows, by the words.
func TestLessShort(t *testing.T) {
	rows := shortRows(2)
	for _, a := range rows {
		for _, b := range rows {
			wantLess(t, a, b)
		}
	}
}

// TestLessDrawn: P7.5: drawn rows, many of which begin alike, by the words.
func TestLessDrawn(t *testing.T) {
	r := rand.New(rand.NewSource(8))
	for range 20000 {
		a, b := someRow(r, false), someRow(r, false)
		wantLess(t, a, b)
		wantLess(t, a, append(slices.Clone(a[:r.Intn(len(a)+1)]), b...))
		wantLess(t, a, a[:r.Intn(len(a)+1)])
	}
}

// TestOneOrder: P7.7: of two rows that may be just one is less, or they are the same; and they are the same just where their texts are.
func TestOneOrder(t *testing.T) {
	rows := slices.DeleteFunc(shortRows(3), func(l []api.Label) bool { return !May(l) })
	r := rand.New(rand.NewSource(9))
	for range 150 {
		rows = append(rows, someRow(r, true))
	}
	for _, a := range rows {
		for _, b := range rows {
			same := slices.Equal(a, b)
			if n := count(Less(a, b), Less(b, a), same); n != 1 {
				t.Errorf("%q, %q: %d of less, more, the same", a, b, n)
			}
			texts := []string{Print(a), Print(b)}
			if n := count(texts[0] < texts[1], texts[1] < texts[0], same); n != 1 {
				t.Errorf("%q, %q: %q", a, b, texts)
			}
		}
	}
	slices.SortFunc(rows, wantCompare)
	for i := range rows {
		for j := i + 1; j < len(rows); j++ {
			check(t, "as they stand in order", !Less(rows[j], rows[i]))
		}
	}
}

// count is how many of these are so.
func count(l ...bool) int {
	n := 0
	for _, is := range l {
		if is {
			n++
		}
	}
	return n
}
