package match

import (
	"math/rand"
	"slices"
	"strings"
	"testing"

	"tocsin/api"
)

// read is the matchers of a text.
func read(t *testing.T, s string) []api.Matcher {
	t.Helper()
	m, rest, e := Parse(s)
	if e != api.OK || rest != "" {
		t.Fatalf("Parse %q: error %d", s, e)
	}
	return m
}

// TestExamplesDoes: P8.3, the chapter's table.
func TestExamplesDoes(t *testing.T) {
	l := called("a", "x", "b", "yy")
	for s, want := range map[string]bool{`{a="x"}`: true, `{c=""}`: true, `{c!=""}`: false, `{b^="y"}`: true, `{b^="yyy"}`: false, `{}`: true} {
		if got := Does(read(t, s), l); got != want {
			t.Errorf("Does of %s: %v", s, got)
		}
	}
}

// TestDoes: P8.3: what each Op asks of a value that is there, of one that is empty, and of one that is missing.
func TestDoes(t *testing.T) {
	for _, c := range []struct {
		l     []api.Label
		value string
		want  [3]bool // of =, !=, ^=
	}{
		{called("a", "x"), "x", [3]bool{true, false, true}}, {called("a", "x"), "y", [3]bool{false, true, false}}, {called("a", "x"), "", [3]bool{false, true, true}},
		{called("a", "xyz"), "x", [3]bool{false, true, true}}, {called("a", "xyz"), "xy", [3]bool{false, true, true}}, {called("a", "xyz"), "xyz", [3]bool{true, false, true}}, {called("a", "xyz"), "xyzz", [3]bool{false, true, false}}, {called("a", "xyz"), "yz", [3]bool{false, true, false}}, {called("a", "xyz"), "xz", [3]bool{false, true, false}}, {called("a", "xyz"), "z", [3]bool{false, true, false}},
		{called("a", ""), "", [3]bool{true, false, true}}, {called("a", ""), "x", [3]bool{false, true, false}}, {nil, "", [3]bool{true, false, true}}, {nil, "x", [3]bool{false, true, false}}, {called("b", "x"), "", [3]bool{true, false, true}}, {called("b", "x"), "x", [3]bool{false, true, false}},
		{called("b", "y", "a", "x"), "x", [3]bool{true, false, true}}, {called("b", "x", "a", "y"), "x", [3]bool{false, true, false}}, {called("a", "x", "b", "y"), "y", [3]bool{false, true, false}},
		{called("a", "x", "a", "y"), "x", [3]bool{true, false, true}}, {called("a", "x", "a", "y"), "y", [3]bool{false, true, false}}, {called("a", "", "a", "y"), "", [3]bool{true, false, true}}, {called("a", "", "a", "y"), "y", [3]bool{false, true, false}}, {called("a", "xy", "a", "x"), "x", [3]bool{false, true, true}}, {called("c", "x", "a", "y", "b", "x", "a", "x"), "x", [3]bool{false, true, false}},
		{called("A", "x", "aa", "x", "", "x", "a ", "x"), "x", [3]bool{false, true, false}}, {called("a", "X"), "x", [3]bool{false, true, false}}, {called("a", "x "), "x", [3]bool{false, true, true}}, {called("a", " x"), "x", [3]bool{false, true, false}}, {called("a", "x"), "x ", [3]bool{false, true, false}},
		{called("a", `"`), `"`, [3]bool{true, false, true}}, {called("a", `\"`), `\`, [3]bool{false, true, true}}, {called("a", `\"`), `"`, [3]bool{false, true, false}}, {called("a", "*"), "x", [3]bool{false, true, false}}, {called("a", "x"), "*", [3]bool{false, true, false}}, {called("a", "x"), ".", [3]bool{false, true, false}},
		{called("a", "é"), "\xc3", [3]bool{false, true, true}}, {called("a", "\xff"), "\xff", [3]bool{true, false, true}}, {called("a", "\xff"), "\xfe", [3]bool{false, true, false}}, {called("a", "\xff"), "\ufffd", [3]bool{false, true, false}}, {called("a", "\x00"), "", [3]bool{false, true, true}}, {called("a", "x\x00"), "x", [3]bool{false, true, true}},
		{called("a", strings.Repeat("v", 5000)), strings.Repeat("v", 4999), [3]bool{false, true, true}}, {called("a", strings.Repeat("v", 5000)), strings.Repeat("v", 5001), [3]bool{false, true, false}},
		{called("b", "1", "c", "2", "d", "3", "e", "4", "f", "5", "a", "x"), "x", [3]bool{true, false, true}},
	} {
		for op, want := range c.want {
			m := []api.Matcher{{Name: "a", Op: uint8(op), Value: c.value}}
			if got := Does(m, c.l); got != want || got != wantDoes(m, c.l) {
				t.Errorf("Does of %v, %q: %v", m, c.l, got)
			}
		}
	}
}

// TestDoesNone: P8.3: no matchers hold, for any labels; no labels have no values.
func TestDoesNone(t *testing.T) {
	for _, l := range [][]api.Label{nil, {}, called("a", "x"), called("", ""), called("b", "x", "a", "y", "a", "z")} {
		check(t, "nil", Does(nil, l))
		check(t, "empty", Does([]api.Matcher{}, l) && Does(row("a", "=", "x")[:0], l))
	}
	for _, l := range [][]api.Label{nil, {}, called("a", "x")[:0]} {
		check(t, "hold for no labels", Does(row("a", "=", "", "b", "^=", "", "", "=", "", "c", "!=", "x"), l))
		check(t, "don't", !Does(row("a", "!=", ""), l) && !Does(row("a", "=", "x"), l) && !Does(row("a", "^=", "x"), l))
	}
}

// TestDoesOp: P8.3: one whose Op is none doesn't hold, whatever else it says, and whatever stands beside it.
func TestDoesOp(t *testing.T) {
	l := called("a", "x", "b", "yy")
	for op := range 256 {
		for _, value := range []string{"", "x", "y", "xx"} {
			for _, name := range []string{"a", "c", ""} {
				one := api.Matcher{Name: name, Op: uint8(op), Value: value}
				want := op <= 2 && wantDoes([]api.Matcher{one}, l)
				for _, m := range [][]api.Matcher{{one}, append(row("a", "=", "x"), one), append([]api.Matcher{one}, row("b", "^=", "y", "c", "=", "")...)} {
					if got := Does(m, l); got != want {
						t.Errorf("Does of %v: %v", m, got)
					}
				}
			}
		}
		if op > 2 {
			check(t, "no labels", !Does([]api.Matcher{{Op: uint8(op)}}, nil))
		}
	}
}

// TestDoesAll: P8.3: one that doesn't hold is enough, wherever it stands, among six or many more; names that may not be are as others.
func TestDoesAll(t *testing.T) {
	l := called("a", "x", "b", "yy", "A", "z", "", "w")
	for _, n := range []int{1, 2, 3, 6, 7, 300} {
		m := slices.Repeat(row("a", "=", "x", "b", "^=", "y", "c", "!=", "x", "A", "=", "z", "", "^=", "w"), n)[:n]
		check(t, "all hold", Does(m, l))
		for i := range m {
			one := m[i]
			for _, bad := range row("a", "!=", "x", "b", "=", "y", "b", "^=", "yyy", "c", "!=", "", "A", "^=", "x", "", "!=", "w") {
				m[i] = bad
				check(t, "all but one", !Does(m, l))
			}
			m[i] = one
		}
	}
}

// shortMatchers is all matchers of a few names and values.
func shortMatchers() []api.Matcher {
	var out []api.Matcher
	for _, name := range []string{"a", "b"} {
		for op := range uint8(4) {
			for _, value := range []string{"", "x", "xy", "y"} {
				out = append(out, api.Matcher{Name: name, Op: op, Value: value})
			}
		}
	}
	return out
}

// shortLabels is all rows of up to two labels of a few names and values.
func shortLabels() [][]api.Label {
	out := [][]api.Label{nil}
	for _, a := range []string{"a", "b"} {
		for _, x := range []string{"", "x", "xy", "y", "z"} {
			out = append(out, called(a, x))
			for _, b := range []string{"a", "b"} {
				for _, y := range []string{"", "x", "xy", "y"} {
					out = append(out, called(a, x, b, y))
				}
			}
		}
	}
	return out
}

// TestDoesShort: P8.3: up to two matchers, up to two labels, by the words.
func TestDoesShort(t *testing.T) {
	for _, l := range shortLabels() {
		for _, one := range shortMatchers() {
			for _, other := range shortMatchers() {
				m := []api.Matcher{one, other}
				if got := Does(m, l); got != wantDoes(m, l) {
					t.Errorf("Does of %v, %q: %v", m, l, got)
				}
			}
			if m := []api.Matcher{one}; Does(m, l) != wantDoes(m, l) {
				t.Errorf("Does of %v, %q: %v", m, l, Does(m, l))
			}
		}
	}
}

// TestDoesDrawn: P8.3: drawn ones, by the words.
func TestDoesDrawn(t *testing.T) {
	r := rand.New(rand.NewSource(7))
	for range 30000 {
		l := someLabels(r)
		m := meant(r, l)
		if got := Does(m, l); got != wantDoes(m, l) {
			t.Errorf("Does of %v, %q: %v", m, l, got)
		}
	}
}

// TestAnd: P8.5: two rows one behind the other hold just where both do; so one that stands twice is as one, and the order is nothing.
func TestAnd(t *testing.T) {
	r := rand.New(rand.NewSource(8))
	for range 10000 {
		l := someLabels(r)
		a, b := meant(r, l), meant(r, l)
		both := Does(a, l) && Does(b, l)
		check(t, "one behind the other", Does(slices.Concat(a, b), l) == both && Does(slices.Concat(b, a), l) == both)
		check(t, "twice", Does(slices.Concat(a, a), l) == Does(a, l) && Does(slices.Repeat(a, 5), l) == Does(a, l))
		other := slices.Concat(a, b)
		r.Shuffle(len(other), func(i, j int) { other[i], other[j] = other[j], other[i] })
		check(t, "in another order", Does(other, l) == both)
		slices.Reverse(other)
		check(t, "the other way round", Does(other, l) == both)
	}
}

// TestOps: P8.5: MUnlike holds just where MEqual doesn't; where MEqual holds, MPrefix does; MPrefix with the empty value always does.
func TestOps(t *testing.T) {
	names, values := []string{"a", "b", "c", "", "A"}, []string{"", "x", "y", "xx", "xy", "yx", `"`, "\xff"}
	holds := func(name string, op uint8, value string, l []api.Label) bool {
		return Does([]api.Matcher{{Name: name, Op: op, Value: value}}, l)
	}
	r := rand.New(rand.NewSource(9))
	for range 3000 {
		l := someLabels(r)
		for _, name := range names {
			for _, value := range values {
				equal := holds(name, api.MEqual, value, l)
				check(t, "MUnlike", holds(name, api.MUnlike, value, l) != equal)
				check(t, "MPrefix", !equal || holds(name, api.MPrefix, value, l))
			}
			check(t, "MPrefix with the empty value", holds(name, api.MPrefix, "", l))
		}
	}
}
