package match

import (
	"math/rand"
	"slices"
	"strings"
	"testing"

	"tocsin/api"
)

// TestMayCount: P8.1: none, nil or empty, to six matchers; not seven, and not more.
func TestMayCount(t *testing.T) {
	m := slices.Repeat(row("a", "=", "x", "b", "!=", "", "c", "^=", "y"), 4)
	check(t, "nil", May(nil))
	check(t, "empty", May([]api.Matcher{}) && May(m[:0]))
	for n := range len(m) + 1 {
		if got := May(m[:n]); got != (n <= 6) {
			t.Errorf("May of %d matchers: %v", n, got)
		}
	}
	for _, n := range []int{255, 256, 257, 262, 1 << 16} {
		check(t, "far too many", !May(slices.Repeat(row("a", "=", "x"), n)))
	}
}

// TestMayOrder: P8.1: names may stand in any order, and twice, a matcher may too.
func TestMayOrder(t *testing.T) {
	for _, names := range []string{"a b c", "c b a", "b a c", "a a", "a b a", "a a a a a a", "z a z a z a", "aa a", "a_ a0", "f e d c b a"} {
		m := row()
		for i, name := range strings.Fields(names) {
			m = append(m, row(name, []string{"=", "!=", "^="}[i%3], "x")...)
		}
		check(t, names, May(m))
		for i := range m {
			m[i].Op = api.MEqual
		}
		check(t, names+", all alike", May(m))
	}
}

// TestMayOp: P8.1: of all Ops three may be, wherever they stand.
func TestMayOp(t *testing.T) {
	for op := range 256 {
		want := op <= 2
		for n := 1; n <= 6; n++ {
			for i := range n {
				m := slices.Repeat(row("a", "!=", "x"), n)
				m[i].Op = uint8(op)
				if got := May(m); got != want {
					t.Errorf("May of %d matchers, the Op %d at %d: %v", n, op, i, got)
				}
			}
		}
	}
}

// TestMayLengths: P8.1: a name of 1 to 16 bytes, a value of none to 32.
func TestMayLengths(t *testing.T) {
	for _, s := range []string{"=", "!=", "^="} {
		for _, n := range []int{0, 1, 2, 15, 16, 17, 18, 31, 32, 33, 34, 64, 255, 256, 257, 272, 288, 1 << 16, 1<<16 + 1, 1<<16 + 16} {
			if got := May(row(strings.Repeat("a", n), s, "x")); got != (n >= 1 && n <= 16) {
				t.Errorf("May of a name of %d bytes, %s: %v", n, s, got)
			}
			for _, c := range []string{"v", `"`, `\`, " ", "~"} {
				if got := May(row("a", s, strings.Repeat(c, n))); got != (n <= 32) {
					t.Errorf("May of a value of %d bytes %q, %s: %v", n, c, s, got)
				}
			}
		}
	}
	check(t, "signs of two bytes each", !May(row(strings.Repeat("é", 8), "=", "x")) && !May(row("a", "=", strings.Repeat("é", 16))))
}

// TestMayBytes: P8.1: each byte, wherever it stands in a name and a value: of these 31 and 127 are the first that may not be.
func TestMayBytes(t *testing.T) {
	for c := range 256 {
		b := string([]byte{byte(c)})
		for _, s := range []string{b, b + "a", "a" + b, "a" + b + "a", b + strings.Repeat("a", 15), strings.Repeat("a", 15) + b, strings.Repeat("a", 31) + b, strings.Repeat(b, 32)} {
			if got := May(row("a", "=", s)); got != (c >= 32 && c <= 126) || got != wantMay(row("a", "=", s)) {
				t.Errorf("May of the value %q: %v", s, got)
			}
			if got := May(row(s, "=", "x")); got != wantMay(row(s, "=", "x")) {
				t.Errorf("May of the name %q: %v", s, got)
			}
		}
		check(t, "a name "+b, May(row(b, "=", "")) == (c >= 'a' && c <= 'z'))
	}
}

// TestMayEach: P8.1: one name, or one value, that may not be is enough, wherever it stands.
func TestMayEach(t *testing.T) {
	_, names := someNames()
	_, values := someValues()
	for n := 1; n <= 6; n++ {
		for i := range n {
			fresh := func() []api.Matcher { return slices.Repeat(row("a", "=", "x", "a", "!=", "", "b", "^=", "y"), 2)[:n] }
			check(t, "all may be", May(fresh()))
			for _, name := range names {
				m := fresh()
				m[i].Name = name
				check(t, "the name "+name, May(m) == nameForm.MatchString(name))
			}
			for _, value := range values {
				m := fresh()
				m[i].Value = value
				check(t, "the value "+value, May(m) == valueForm.MatchString(value))
			}
		}
	}
}

// TestMayDrawn: P8.1, by the words.
func TestMayDrawn(t *testing.T) {
	r := rand.New(rand.NewSource(2))
	for range 20000 {
		m := someRow(r, false)
		if got := May(m); got != wantMay(m) {
			t.Errorf("May %v: %v", m, got)
		}
	}
}
