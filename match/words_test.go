package match

import (
	"math/rand"
	"regexp"
	"slices"
	"strings"
	"testing"

	"tocsin/api"
)

// The words of the chapter once more, by regular expressions and replacers.
var (
	nameForm    = regexp.MustCompile(`\A[a-z][a-z0-9_]{0,15}\z`)
	valueForm   = regexp.MustCompile(`\A[ -~]{0,32}\z`)
	matcherForm = `[a-z][a-z0-9_]{0,15}(?:=|!=|\^=)"(?:[ !#-\[\]-~]|\\["\\]){0,32}"`
	textForm    = regexp.MustCompile(`\A\{(?:` + matcherForm + `(?:,` + matcherForm + `){0,5})?\}`)
	oneForm     = regexp.MustCompile(`([a-z0-9_]+)(=|!=|\^=)"((?:[^"\\]|\\.)*)"`)

	escape   = strings.NewReplacer(`"`, `\"`, `\`, `\\`)
	unescape = strings.NewReplacer(`\"`, `"`, `\\`, `\`)

	ops = map[string]uint8{"=": api.MEqual, "!=": api.MUnlike, "^=": api.MPrefix}
)

// row makes matchers of names, signs and values in turn.
func row(l ...string) []api.Matcher {
	var out []api.Matcher
	for i := 0; i+2 < len(l); i += 3 {
		out = append(out, api.Matcher{Name: l[i], Op: ops[l[i+1]], Value: l[i+2]})
	}
	return out
}

// called makes labels of names and values in turn.
func called(l ...string) []api.Label {
	var out []api.Label
	for i := 0; i+1 < len(l); i += 2 {
		out = append(out, api.Label{Name: l[i], Value: l[i+1]})
	}
	return out
}

// wantMay says whether matchers may be.
func wantMay(m []api.Matcher) bool {
	bad := slices.ContainsFunc(m, func(one api.Matcher) bool {
		return one.Op != api.MEqual && one.Op != api.MUnlike && one.Op != api.MPrefix || !nameForm.MatchString(one.Name) || !valueForm.MatchString(one.Value)
	})
	return len(m) <= 6 && !bad
}

// wantPrint is the text of matchers.
func wantPrint(m []api.Matcher) string {
	s, between := "{", ""
	for _, one := range m {
		written := "="
		for text, op := range ops {
			if op == one.Op {
				written = text
			}
		}
		s += between + one.Name + written + `"` + escape.Replace(one.Value) + `"`
		between = ","
	}
	return s + "}"
}

// wantParse is the matchers whose text s begins with, and what stands behind it.
func wantParse(s string) (m []api.Matcher, rest string, e api.Errno) {
	text := textForm.FindString(s)
	for _, one := range oneForm.FindAllStringSubmatch(text, -1) {
		m = append(m, api.Matcher{Name: one[1], Op: ops[one[2]], Value: unescape.Replace(one[3])})
	}
	if text == "" || !wantMay(m) {
		return nil, "", api.ErrMatch
	}
	return m, s[len(text):], api.OK
}

// wantDoes says whether all matchers hold: it counts those that do.
func wantDoes(m []api.Matcher, l []api.Label) bool {
	hold := 0
	for _, one := range m {
		value := ""
		if i := slices.IndexFunc(l, func(x api.Label) bool { return x.Name == one.Name }); i >= 0 {
			value = l[i].Value
		}
		begins := len(value) >= len(one.Value) && value[:len(one.Value)] == one.Value
		is := begins && len(value) == len(one.Value)
		if one.Op == api.MEqual && is || one.Op == api.MUnlike && !is || one.Op == api.MPrefix && begins {
			hold++
		}
	}
	return hold == len(m)
}

func check(t *testing.T, what string, ok bool) {
	t.Helper()
	if !ok {
		t.Errorf("%q", what)
	}
}

// wantRefused fails, unless Parse refuses the text, and tells nothing else.
func wantRefused(t *testing.T, s string) {
	t.Helper()
	if m, rest, e := Parse(s); e != api.ErrMatch || len(m) != 0 || rest != "" {
		t.Errorf("Parse %q: %q %q, error %d, want ErrMatch", s, m, rest, e)
	}
}

// wantRead fails, unless Parse tells these matchers, and that rest.
func wantRead(t *testing.T, s string, want []api.Matcher, behind string) {
	t.Helper()
	if m, rest, e := Parse(s); e != api.OK || !slices.Equal(m, want) || rest != behind {
		t.Errorf("Parse %q: %v %q, error %d, want %v %q", s, m, rest, e, want, behind)
	}
}

// wantWords holds Parse of the text against the words; what it tells may be, and is written as it was read (P8.4).
func wantWords(t *testing.T, s string) {
	t.Helper()
	want, behind, e := wantParse(s)
	if e != api.OK {
		wantRefused(t, s)
		return
	}
	wantRead(t, s, want, behind)
	m, rest, _ := Parse(s)
	if !May(m) || Print(m)+rest != s {
		t.Errorf("%q is told as %v, %q", s, m, rest)
	}
}

// behinds: what may stand behind a text.
var behinds = []string{"", " ", "[5]", "}", "{", "{}", "}}", ",", `"`, `"}`, `\`, `\"`, `,b="y"}`, `{b!="y"}`, "=", "!=", "^", "\x00", "\xff", "é"}

// signs: what stands between a name and a value, the right ones at first.
var signs = []string{"=", "!=", "^=", "", "!", "^", "==", "~", "=~", "!~", "~=", "!!=", "^^=", "!^=", "^!=", "=!", "=^", "!==", "^==", "=!=", "=^=", "<", "<=", ">", ">=", ":", ":=", "+=", "$=", "*=", "<>", "=\"\"", " ", " =", "= ", " = ", " !=", "! =", "!= ", " ^=", "^ =", "^= ", "\t=", "=\n", "\x00=", "=\x00", "≠", "!\xff"}

// someNames, someValues, someOps: those of which rows are drawn; of the second ones of each, not all may be.
func someNames() (good, all []string) {
	good = []string{"a", "b", "c", "aa", "a_", "a0", "z", strings.Repeat("a", 16), strings.Repeat("z", 16)}
	return good, append(slices.Clone(good), "", "_", "_a", "0", "1a", "A", "aB", "a-", "a b", " a", "a ", "é", "a\x00", "a\xff", `a"`, `"`, `\`, "{", "}", ",", "=", "!", "^", "a!", "a^", "a=", `a="x",b`, `a!="",b`, strings.Repeat("a", 17), strings.Repeat("n", 300))
}

func someValues() (good, all []string) {
	good = []string{"", "x", "y", "xx", "xy", "xxx", " ", "~", `"`, `\`, `\\`, `""`, `\"`, `"\`, `a"b`, `a\b`, `\n`, "{}", `{a="x"}`, ",", "=", `",b="`, `"}`, `"!="`, "y z", strings.Repeat("v", 32), strings.Repeat(`"`, 32), strings.Repeat(`\`, 32), strings.Repeat(`\"`, 16), strings.Repeat(`"\`, 16)}
	return good, append(slices.Clone(good), "\x00", "\x1f", "\x7f", "\x80", "\xff", "a\n", "\tb", "é", "a\xffb", "日本", strings.Repeat("v", 33), strings.Repeat(`"`, 33), strings.Repeat("w", 300))
}

func someOps() (good, all []uint8) {
	return []uint8{0, 1, 2}, []uint8{0, 1, 2, 0, 1, 2, 3, 4, 128, 255}
}

// pick draws one of these.
func pick[T any](r *rand.Rand, l []T) T {
	return l[r.Intn(len(l))]
}

// someRow draws up to seven matchers; or, if they are to be good, ones that may be.
func someRow(r *rand.Rand, good bool) []api.Matcher {
	names, allNames := someNames()
	values, allValues := someValues()
	kinds, allKinds := someOps()
	n := r.Intn(7)
	if !good && r.Intn(3) == 0 {
		names, values, kinds, n = allNames, allValues, allKinds, r.Intn(8)
	}
	var m []api.Matcher
	for range n {
		m = append(m, api.Matcher{Name: pick(r, names), Op: pick(r, kinds), Value: pick(r, values)})
	}
	return m
}

// someLabels draws up to six labels of a few names and values, of any order, those that may not be too.
func someLabels(r *rand.Rand) []api.Label {
	names, _ := someNames()
	values, _ := someValues()
	var l []api.Label
	for range r.Intn(7) {
		l = append(l, api.Label{Name: pick(r, append(names[:4:4], "")), Value: pick(r, values[:6])})
	}
	return l
}

// meant draws matchers of a few names and values, many of which hold for these labels: every other one asks for the beginning of a value that is there.
func meant(r *rand.Rand, l []api.Label) []api.Matcher {
	names, _ := someNames()
	values, _ := someValues()
	kinds, allKinds := someOps()
	if r.Intn(8) == 0 {
		kinds = allKinds
	}
	var m []api.Matcher
	for range r.Intn(4) {
		one := api.Matcher{Name: pick(r, append(names[:4:4], "")), Op: pick(r, kinds), Value: pick(r, values[:6])}
		if len(l) > 0 && r.Intn(2) == 0 {
			there := pick(r, l)
			one.Name, one.Value = there.Name, there.Value[:r.Intn(len(there.Value)+1)]
		}
		m = append(m, one)
	}
	return m
}

// TestDrawn: rows are drawn as it is said, enough of each kind, so that the tests below stand on something.
func TestDrawn(t *testing.T) {
	r := rand.New(rand.NewSource(1))
	may, does := 0, 0
	for range 2000 {
		check(t, "a good row", wantMay(someRow(r, true)))
		if wantMay(someRow(r, false)) {
			may++
		}
		l := someLabels(r)
		if m := meant(r, l); len(m) > 0 && wantDoes(m, l) {
			does++
		}
	}
	check(t, "some may be, some may not", may > 1000 && may < 1900)
	check(t, "some hold, some don't", does > 300 && does < 1700)
}
