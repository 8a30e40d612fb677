package labels

import (
	"cmp"
	"math/rand"
	"regexp"
	"slices"
	"strings"
	"testing"

	"tocsin/api"
)

// The words of the chapter once more, by regular expressions and replacers.
var (
	nameForm  = regexp.MustCompile(`\A[a-z][a-z0-9_]{0,15}\z`)
	valueForm = regexp.MustCompile(`\A[ -~]{1,32}\z`)
	labelForm = `[a-z][a-z0-9_]{0,15}="(?:[ !#-\[\]-~]|\\["\\]){1,32}"`
	textForm  = regexp.MustCompile(`\A\{(?:` + labelForm + `(?:,` + labelForm + `){0,3})?\}`)
	oneForm   = regexp.MustCompile(`([a-z0-9_]+)="((?:[^"\\]|\\.)+)"`)

	escape   = strings.NewReplacer(`"`, `\"`, `\`, `\\`)
	unescape = strings.NewReplacer(`\"`, `"`, `\\`, `\`)
)

// row makes labels of names and values in turn.
func row(l ...string) []api.Label {
	var out []api.Label
	for i := 0; i+1 < len(l); i += 2 {
		out = append(out, api.Label{Name: l[i], Value: l[i+1]})
	}
	return out
}

// flat is the names and values of labels in turn.
func flat(l []api.Label) []string {
	out := []string{}
	for _, one := range l {
		out = append(out, one.Name, one.Value)
	}
	return out
}

// wantMay says whether labels may be.
func wantMay(l []api.Label) bool {
	names := []string{}
	for _, one := range l {
		if !nameForm.MatchString(one.Name) || !valueForm.MatchString(one.Value) {
			return false
		}
		names = append(names, one.Name)
	}
	sorted := slices.Compact(slices.Sorted(slices.Values(names)))
	return len(l) <= 4 && slices.Equal(sorted, names)
}

// wantPrint is the text of labels.
func wantPrint(l []api.Label) string {
	s, between := "{", ""
	for _, one := range l {
		s += between + one.Name + `="` + escape.Replace(one.Value) + `"`
		between = ","
	}
	return s + "}"
}

// wantParse is the labels whose text s begins with, and what stands behind it.
func wantParse(s string) (l []api.Label, rest string, e api.Errno) {
	text := textForm.FindString(s)
	for _, m := range oneForm.FindAllStringSubmatch(text, -1) {
		l = append(l, api.Label{Name: m[1], Value: unescape.Replace(m[2])})
	}
	if text == "" || !wantMay(l) {
		return nil, "", api.ErrLabels
	}
	return l, s[len(text):], api.OK
}

// wantValue is the value of the first label with that name.
func wantValue(l []api.Label, name string) string {
	i := slices.IndexFunc(l, func(one api.Label) bool { return one.Name == name })
	if i < 0 {
		return ""
	}
	return l[i].Value
}

// wantCompare is the order of rows: that of their names and values in turn.
func wantCompare(a, b []api.Label) int {
	return slices.Compare(flat(a), flat(b))
}

func check(t *testing.T, what string, ok bool) {
	t.Helper()
	if !ok {
		t.Errorf("%s", what)
	}
}

// wantRefused fails, unless Parse refuses the text, and tells nothing else.
func wantRefused(t *testing.T, s string) {
	t.Helper()
	if l, rest, e := Parse(s); e != api.ErrLabels || len(l) != 0 || rest != "" {
		t.Errorf("Parse %q: %q %q, error %d, want ErrLabels", s, l, rest, e)
	}
}

// wantRead fails, unless Parse tells these labels, and that rest.
func wantRead(t *testing.T, s string, want []api.Label, behind string) {
	t.Helper()
	if l, rest, e := Parse(s); e != api.OK || !slices.Equal(l, want) || rest != behind {
		t.Errorf("Parse %q: %q %q, error %d, want %q %q", s, l, rest, e, want, behind)
	}
}

// wantWords holds Parse of the text against the words; what it tells may be, and is written as it was read (P7.6).
func wantWords(t *testing.T, s string) {
	t.Helper()
	want, behind, e := wantParse(s)
	if e != api.OK {
		wantRefused(t, s)
		return
	}
	wantRead(t, s, want, behind)
	l, rest, _ := Parse(s)
	if !May(l) || Print(l)+rest != s {
		t.Errorf("%q is told as %q, %q", s, l, rest)
	}
}

// behinds: what may stand behind a text.
var behinds = []string{"", " ", " 5", "}", "{", "{}", "}}", ",", `"`, `"}`, `\`, `\"`, `,b="y"}`, `{b="y"}`, `[5]`, "\x00", "\xff", "é"}

// someNames, someValues: those of which rows are drawn; of the second ones of each, not all may be.
func someNames() (good, all []string) {
	good = []string{"a", "b", "aa", "a_", "a0", "ab", "z", "m", strings.Repeat("a", 16), strings.Repeat("z", 16), strings.Repeat("a", 15) + "b"}
	return good, append(slices.Clone(good), "", "_", "_a", "0", "1a", "A", "aB", "a-", "a b", " a", "a ", "é", "a\x00", "a\xff", `a"`, `"`, `\`, "{", "}", ",", "=", `a="x",b`, "a=", strings.Repeat("a", 17), strings.Repeat("n", 300))
}

func someValues() (good, all []string) {
	good = []string{"x", "y", "xx", " ", "~", `"`, `\`, `\\`, `""`, `\"`, `"\`, `a"b`, `a\b`, `\n`, "{}", `{a="x"}`, ",", "=", `",b="`, `"}`, "y z", strings.Repeat("v", 32), strings.Repeat(`"`, 32), strings.Repeat(`\`, 32), strings.Repeat(`\"`, 16), strings.Repeat(`"\`, 16)}
	return good, append(slices.Clone(good), "", "\x00", "\x1f", "\x7f", "\x80", "\xff", "a\n", "\tb", "é", "a\xffb", "日本", strings.Repeat("v", 33), strings.Repeat(`"`, 33), strings.Repeat("w", 300))
}

// someRow draws labels, of up to six names in any order; or, if they are to be good, ones that may be.
func someRow(r *rand.Rand, good bool) []api.Label {
	names, allNames := someNames()
	values, allValues := someValues()
	if !good && r.Intn(2) == 0 {
		names, values = allNames, allValues
	}
	var l []api.Label
	for range r.Intn(7) {
		l = append(l, api.Label{Name: names[r.Intn(len(names))], Value: values[r.Intn(len(values))]})
	}
	if good || r.Intn(2) == 0 {
		slices.SortFunc(l, func(a, b api.Label) int { return cmp.Compare(a.Name, b.Name) })
	}
	if good {
		l = slices.CompactFunc(l, func(a, b api.Label) bool { return a.Name == b.Name })
		l = l[:min(len(l), 4)]
	}
	return l
}

// TestDrawn: someRow draws what it says, enough of each kind, so that the tests below stand on something.
func TestDrawn(t *testing.T) {
	r := rand.New(rand.NewSource(1))
	may := 0
	for range 2000 {
		check(t, "a good row", wantMay(someRow(r, true)))
		if wantMay(someRow(r, false)) {
			may++
		}
	}
	check(t, "of all rows some", may > 200 && may < 1800)
}
