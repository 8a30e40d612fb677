package expr

import (
	"math/rand"
	"strings"
	"testing"

	"tocsin/api"
	"tocsin/lex"
)

// wantPrinted fails, unless Print of what Parse tells of a text with letters for atoms is such a text.
func wantPrinted(t *testing.T, s, want string) {
	t.Helper()
	nodes, e := Parse(spell(s))
	if got := Print(nodes); e != api.OK || got != spell(want) {
		t.Errorf("Print of %q: %q, error %d, want %q", s, got, e, spell(want))
	}
}

// TestPrint: P10.3: each kind, with its blanks; what is not right has the empty text.
func TestPrint(t *testing.T) {
	for i, n := range atomNodes() {
		if got := Print([]api.Node{n}); got != atoms[i] {
			t.Errorf("Print of %s: %q", atoms[i], got)
		}
	}
	for _, c := range []struct {
		n    api.Node
		want string
	}{
		{api.Node{Window: 1}, "count({}[1]) < 0"}, {api.Node{Agg: 5, Window: 1000, Compare: 5, Value: -1}, "last({}[1000]) != -0.001"}, {api.Node{Agg: 4, Window: 10, Compare: 3, Value: 7100}, "mean({}[10]) >= 7.1"}, {api.Node{Agg: 3, Window: 100, Compare: 2, Value: -end}, "max({}[100]) > -4611686018427387.903"}, {api.Node{Agg: 2, Window: 99, Compare: 4, Value: 1000}, "min({}[99]) == 1"}, {api.Node{Agg: 1, Window: 7, Compare: 1, Value: -20}, "sum({}[7]) <= -0.02"},
		{api.Node{Window: 5, Select: []api.Matcher{{Name: "b", Op: api.MUnlike, Value: ""}, {Name: "a", Op: api.MPrefix, Value: `"\`}, {Name: "b", Value: "x y"}}}, `count({b!="",a^="\"\\",b="x y"}[5]) < 0`},
	} {
		if got := Print([]api.Node{c.n}); got != c.want {
			t.Errorf("Print of %+v: %q, want %q", c.n, got, c.want)
		}
	}
	if got := Print([]api.Node{atom(0), atom(1), both(api.NOr, 0, 1), notOf(2), atom(2), both(api.NAnd, 3, 4)}); got != spell("not (A or B) and C") {
		t.Errorf("%q", got)
	}
	for _, nodes := range [][]api.Node{nil, {}, {{}}, {{Window: 1}, {Window: 1}}, {{Kind: api.NNot}}, {{Window: 1001}}} {
		check(t, "not right", Print(nodes) == "")
	}
}

// TestPrintNumbers: P10.3: all windows, and values, in the fewest bytes.
func TestPrintNumbers(t *testing.T) {
	for n := 1; n <= 1000; n++ {
		nodes := []api.Node{{Window: n, Value: int64(n*37 - 5000)}}
		check(t, Print(nodes), Print(nodes) == wantText(nodes[0]) && Print(nodes) != "")
	}
	for _, x := range []int64{0, 1, -1, 10, -10, 100, 999, 1000, 1001, 1010, 1100, -1000, 123456789, end, -end, end - 3, end - 903} {
		nodes := []api.Node{{Window: 5, Value: x}}
		check(t, Print(nodes), Print(nodes) == wantText(nodes[0]) && Print(nodes) != "")
	}
}

// TestParenthesesNeeded: P10.3: what would be read otherwise stands in parentheses, and nothing else.
func TestParenthesesNeeded(t *testing.T) {
	for s, want := range map[string]string{
		"(A)": "A", "((A))": "A", "(A and B)": "A and B", "(A) and (B)": "A and B", "(A and B) and C": "A and B and C", "(A or B) or C": "A or B or C", "((A and B) and C) and D": "A and B and C and D", "(A and B) or C": "A and B or C", "A or (B and C)": "A or B and C", "(A and B) or (C and D)": "A and B or C and D", "not (A)": "not A", "not (not (A))": "not not A", "(not A) and B": "not A and B", "A and (not B)": "A and not B", "(not A) or (not B)": "not A or not B",
		"((A or B)) and C": "(A or B) and C", "not ((A and B))": "not (A and B)", "not (A) and (B or (C))": "not A and (B or C)", "(not (A or B)) and C": "not (A or B) and C", "(A and (B)) or ((C or D) and E)": "A and B or (C or D) and E", "(((A) or B) and C) or D": "(A or B) and C or D", "not (not (A and B))": "not not (A and B)",
	} {
		wantPrinted(t, s, want)
		wantPrinted(t, want, want)
	}
	for _, s := range []string{"A and (B and C)", "A or (B or C)", "A and (B or C)", "(A or B) and C", "(A or B) and (C or D)", "not (A and B)", "not (A or B)", "not not (A or B)", "A and not (B or C)", "A and (B and (C and D))", "A or (B or (C or D))", "A and B and (C and D)", "A and (B and C) and D", "A or (B or C) or D", "A or (B and C or D)", "not (A and (B or not (C and D)))", "A and (B or C and (D or E))", "not A and (not B or C)"} {
		wantPrinted(t, s, s)
		wantPrinted(t, "("+s+")", s)
	}
}

// unpaired is a text without one pair of its parentheses each: those that stand around conditions.
func unpaired(s string) []string {
	var out []string
	l := tokensOf(s)
	var open []int
	for i, one := range l {
		if one.Kind != lex.TSign {
			continue
		}
		switch one.Text {
		case "(":
			open = append(open, i)
		case ")":
			j := open[len(open)-1]
			open = open[:len(open)-1]
			if l[j+1].Text != "{" {
				out = append(out, s[:l[j].At]+s[l[j].At+1:one.At]+s[one.At+1:])
			}
		}
	}
	return out
}

// TestNothingElse: P10.3: without any pair of its parentheses a text is read otherwise.
func TestNothingElse(t *testing.T) {
	r := rand.New(rand.NewSource(6))
	pairs := 0
	for range 2000 {
		nodes := someTree(r, r.Intn(12)+1).row()
		for _, s := range unpaired(Print(nodes)) {
			pairs++
			if other, e := Parse(s); e == api.OK && same(other, nodes) {
				t.Errorf("%q has more parentheses than it needs: %q", Print(nodes), s)
			}
		}
	}
	check(t, "enough of them", pairs > 1000)
}

// TestThereAndBack: P10.4: of right nodes Parse of Print tells them, if the text isn't too long; Read tells them in any case.
func TestThereAndBack(t *testing.T) {
	r := rand.New(rand.NewSource(7))
	long := 0
	for i := range 4000 {
		nodes := someTree(r, i%most+1).row()
		s := Print(nodes)
		if len(s) > longest {
			long++
			wantRefused(t, s, api.ErrLong)
			continue
		}
		wantNodes(t, s, nodes)
		for _, behind := range []string{";", ")", " A"} {
			l := tokens(s + behind)
			got, next, e := Read(l, 0)
			check(t, s, e == api.OK && same(got, nodes) && next == len(tokensOf(s)))
		}
	}
	check(t, "few of them too long", long < 2000)
	big := atom(5)
	for i := range big.Select {
		big.Select[i].Name, big.Select[i].Value = strings.Repeat("n", 16), strings.Repeat(`"`, 32)
	}
	nodes := []api.Node{big}
	for len(nodes) < most {
		nodes = append(nodes, big, both(api.NAnd, len(nodes)-1, len(nodes)))
	}
	wantRight(t, nodes, true)
	s := Print(nodes)
	check(t, "its text is too long", len(s) > longest && s == wantPrint(nodes))
	wantRefused(t, s, api.ErrLong)
}

// TestOneText: P10.4: all texts that have the same nodes are written as one and the same, that is read as they are.
func TestOneText(t *testing.T) {
	r := rand.New(rand.NewSource(8))
	for range 700 {
		one := someTree(r, r.Intn(9)+1)
		want := Print(one.row())
		check(t, want, want == one.written())
		for range 4 {
			s := one.laid(r)
			if len(s) > longest {
				continue
			}
			nodes, e := Parse(s)
			check(t, s, e == api.OK && Print(nodes) == want)
			check(t, want, len(want) <= len(strings.Join(strings.Fields(s), " ")) || len(s) < len(want))
		}
	}
}

// everyRow is all rows of so many symbols that are conditions: 0: of or, 1: of and, 2: of neither.
func everyRow(n, strength int) []string {
	switch {
	case n < 1:
		return nil
	case strength == 2 && n == 1:
		return []string{"c"}
	}
	var l []string
	if strength == 2 {
		for _, s := range everyRow(n-1, 2) {
			l = append(l, "!"+s)
		}
		for _, s := range everyRow(n-2, 0) {
			l = append(l, "("+s+")")
		}
		return l
	}
	for k := 1; k < n-1; k++ {
		right := everyRow(n-1-k, strength+1)
		for _, left := range everyRow(k, strength) {
			for _, s := range right {
				l = append(l, left+"|&"[strength:strength+1]+s)
			}
		}
	}
	return append(l, everyRow(n, strength+1)...)
}

// TestShortest: P10.4: of all short texts that have the same nodes Print's is the shortest one.
func TestShortest(t *testing.T) {
	words := strings.NewReplacer("c", "sum({}[1]) < 0", "&", " and ", "|", " or ", "!", "not ")
	shortest, told := map[string]int{}, map[string]string{}
	texts := 0
	for n := range 12 {
		for _, row := range everyRow(n, 0) {
			s := words.Replace(row)
			nodes, e := Parse(s)
			check(t, s, e == api.OK)
			key, text := brief(nodes), Print(nodes)
			if len(told[key]) == 0 || len(s) < shortest[key] {
				shortest[key] = len(s)
			}
			if len(told[key]) > 0 && told[key] != text {
				t.Errorf("%q and %q have the same nodes", told[key], text)
			}
			told[key] = text
			texts++
		}
	}
	for key, text := range told {
		if len(text) != shortest[key] {
			t.Errorf("%q isn't the shortest text: %d bytes are enough", text, shortest[key])
		}
	}
	check(t, "enough of them", texts > 5000 && len(told) > 1000)
}
