package labels

import (
	"math/rand"
	"strings"
	"testing"
)

// TestExamplesMayName: P7.1, the chapter's table.
func TestExamplesMayName(t *testing.T) {
	for s, want := range map[string]bool{"a": true, "a_1": true, "": false, "1a": false, "_a": false, "A": false, strings.Repeat("n", 17): false} {
		if MayName(s) != want {
			t.Errorf("MayName %q: %v", s, !want)
		}
	}
}

// TestLengths: P7.1: a name of 1 to 16 bytes, a value of 1 to 32.
func TestLengths(t *testing.T) {
	for n := range 70 {
		for _, c := range []string{"a", "z"} {
			s := strings.Repeat(c, n)
			if got := MayName(s); got != (n >= 1 && n <= 16) {
				t.Errorf("MayName of %d bytes: %v", n, got)
			}
			if got := MayValue(s); got != (n >= 1 && n <= 32) {
				t.Errorf("MayValue of %d bytes: %v", n, got)
			}
		}
	}
	for _, n := range []int{255, 256, 257, 272, 288, 1 << 16, 1<<16 + 1, 1<<16 + 16} {
		check(t, "far too long", !MayName(strings.Repeat("a", n)) && !MayValue(strings.Repeat("a", n)))
	}
	check(t, "16 letters of two bytes each", !MayName(strings.Repeat("é", 16)) && !MayValue(strings.Repeat("é", 16)))
}

// TestBytesOfNames: P7.1: each byte, alone, first, last, and in the midst; beyond ASCII too.
func TestBytesOfNames(t *testing.T) {
	for c := range 256 {
		b := string([]byte{byte(c)})
		first := c >= 'a' && c <= 'z'
		other := first || c >= '0' && c <= '9' || c == '_'
		for s, want := range map[string]bool{b: first, b + "a": first, b + strings.Repeat("a", 15): first, "a" + b: other, "a" + b + "a": other, strings.Repeat("a", 15) + b: other, "a" + strings.Repeat(b, 15): other} {
			if got := MayName(s); got != want || want != nameForm.MatchString(s) {
				t.Errorf("MayName %q: %v", s, got)
			}
		}
	}
}

// TestBytesOfValues: P7.1: each byte, wherever it stands: 31 and 127 are the first that may not be.
func TestBytesOfValues(t *testing.T) {
	for c := range 256 {
		b := string([]byte{byte(c)})
		want := c >= 32 && c <= 126
		for _, s := range []string{b, b + "a", "a" + b, "a" + b + "a", b + strings.Repeat("a", 31), strings.Repeat("a", 31) + b, strings.Repeat(b, 32)} {
			if got := MayValue(s); got != want || want != valueForm.MatchString(s) {
				t.Errorf("MayValue %q: %v", s, got)
			}
		}
	}
	check(t, "no byte", !MayValue(""))
}

// TestMayCount: P7.1: none, nil or empty, to four labels; not five, and not more.
func TestMayCount(t *testing.T) {
	l := row("a", "1", "b", "1", "c", "1", "d", "1", "e", "1", "f", "1", "g", "1", "h", "1")
	check(t, "nil", May(nil))
	check(t, "empty", May(row()) && May(l[:0]))
	for n := range len(l) + 1 {
		if got := May(l[:n]); got != (n <= 4) {
			t.Errorf("May of %d labels: %v", n, got)
		}
	}
	many := row()
	for range 1000 {
		many = append(many, l...)
	}
	check(t, "thousands", !May(many))
}

// TestMayRises: P7.1: the names rise, byte by byte, none twice, whatever the values, wherever they stand.
func TestMayRises(t *testing.T) {
	for _, c := range []struct {
		names string
		want  bool
	}{
		{"a b", true}, {"b a", false}, {"a a", false}, {"a aa", true}, {"aa a", false}, {"a0 a_", true}, {"a_ a0", false},
		{"a_ aa", true}, {"aa a_", false}, {"a9 aa", true}, {"z za", true}, {"b aa", false}, {"a10 a9", true}, {"a9 a10", false},
		{"a b c d", true}, {"a b d c", false}, {"b a c d", false}, {"a c b d", false}, {"a b c c", false}, {"a a c d", false}, {"a b b d", false},
		{"a b a", false}, {"a b a b", false}, {"d c b a", false}, {"a b c a", false},
	} {
		names := strings.Fields(c.names)
		for _, values := range [][]string{{"x", "x", "x", "x"}, {"1", "2", "3", "4"}, {"4", "3", "2", "1"}} {
			l := row()
			for i, name := range names {
				l = append(l, row(name, values[i])...)
			}
			if got := May(l); got != c.want {
				t.Errorf("May %q: %v", l, got)
			}
		}
	}
}

// TestMayEach: P7.1: one name or one value that may not be is enough, wherever it stands.
func TestMayEach(t *testing.T) {
	names, values := []string{"", "1", "_", "A", "é", "b-", strings.Repeat("b", 17)}, []string{"", "\x1f", "\x7f", "é", strings.Repeat("v", 33)}
	for n := 1; n <= 4; n++ {
		for i := range n {
			fresh := func() []string { return []string{"a", "x", "b", "x", "c", "x", "d", "x"}[:2*n] }
			check(t, "all may be", May(row(fresh()...)))
			for _, bad := range names {
				l := fresh()
				l[2*i] = bad
				check(t, "name "+bad, !May(row(l...)))
			}
			for _, bad := range values {
				l := fresh()
				l[2*i+1] = bad
				check(t, "value "+bad, !May(row(l...)))
			}
		}
	}
	check(t, "the longest of all", May(row("a", strings.Repeat("v", 32), strings.Repeat("b", 16), strings.Repeat(`"`, 32), strings.Repeat("c", 16), strings.Repeat(`\`, 32), strings.Repeat("d", 16), strings.Repeat(" ", 32))))
}

// TestMayDrawn: P7.1, by the words.
func TestMayDrawn(t *testing.T) {
	r := rand.New(rand.NewSource(2))
	for range 20000 {
		l := someRow(r, r.Intn(3) == 0)
		if got := May(l); got != wantMay(l) {
			t.Errorf("May %q: %v", l, got)
		}
	}
}
