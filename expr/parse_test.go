package expr

import (
	"fmt"
	"math/rand"
	"slices"
	"strings"
	"testing"

	"tocsin/api"
)

// TestExamples: P10.2, the chapter's table.
func TestExamples(t *testing.T) {
	wantNodes(t, "count({}[5]) > 3", []api.Node{{Kind: api.NCompare, Agg: api.ACount, Window: 5, Compare: api.CGreater, Value: 3000}})
	wantBrief(t, "not (A or B) and C", "A B |0,1 !2 C &3,4")
	wantBrief(t, "A and B and C", "A B &0,1 C &2,3")
	wantBrief(t, "A and (B and C)", "A B C &1,2 &0,3")
	wantNone(t, "", "count({}[0]) > 1", "count({}[5]) > 1.2345", "A and", "(A", "count({}[1.0]) > 1")
	wantRefused(t, spell(strings.Repeat("A or ", 16)+"A"), api.ErrFull)
}

// TestAtoms: P10.2: what a comparison's parts come to, field by field.
func TestAtoms(t *testing.T) {
	for i, n := range atomNodes() {
		wantNodes(t, atoms[i], []api.Node{n})
		wantWords(t, atoms[i])
	}
}

// TestNothing: P10.2: no token at all.
func TestNothing(t *testing.T) {
	wantNone(t, "", " ", "\n\t\r ", "#", "# A", "#\n#\n", strings.Repeat(" ", longest))
}

// TestAggregates: P10.2: six words are right; no other one, nor what isn't a word.
func TestAggregates(t *testing.T) {
	for i, word := range []string{"count", "sum", "min", "max", "mean", "last"} {
		wantNodes(t, word+"({}[5]) > 3", []api.Node{{Agg: uint8(i), Window: 5, Compare: api.CGreater, Value: 3000}})
		wantWords(t, word+"({}[5]) > 3")
		wantNone(t, word, word+"(", word+"()", word+" > 3", "("+word+"({}[5])) > 3", word+"s({}[5]) > 3", word+"_({}[5]) > 3", word+"1({}[5]) > 3", word+" "+word+"({}[5]) > 3", `"`+word+`"({}[5]) > 3`, "x"+word+"({}[5]) > 3", word[:len(word)-1]+"({}[5]) > 3", word[1:]+"({}[5]) > 3")
	}
	for _, word := range []string{"", "a", "avg", "median", "first", "rate", "and", "or", "not", "1", "1.5", "{", "(", "-", "countsum", "sum count", "rule", "by", "to", "for", "none"} {
		wantNone(t, word+"({}[5]) > 3")
	}
	wantRefused(t, "Count({}[5]) > 3", api.ErrLex)
	wantRefused(t, "COUNT({}[5]) > 3", api.ErrLex)
}

// TestCompares: P10.2: six signs are right; nothing else in their place.
func TestCompares(t *testing.T) {
	for i, sign := range []string{"<", "<=", ">", ">=", "==", "!="} {
		for _, s := range []string{"count({}[5]) " + sign + " 3", "count({}[5])" + sign + "3", "count({}[5])\n" + sign + "#x\n3"} {
			wantNodes(t, s, []api.Node{{Window: 5, Compare: uint8(i), Value: 3000}})
			wantWords(t, s)
		}
		wantNone(t, "count({}[5]) "+sign, "count({}[5]) "+sign+" "+sign+" 3", sign+" count({}[5]) 3", "3 "+sign+" count({}[5])", "count({}[5]) "+sign+" count({}[5])", "count({}[5]"+sign+" 3)", "count({}[5]) ("+sign+" 3)")
		wantNodes(t, "count({}[5])"+sign+"-3", []api.Node{{Window: 5, Compare: uint8(i), Value: -3000}})
	}
	wantNone(t, "count({}[5]) = 3", "count({}[5]) = = 3", "count({}[5]) < = 3", "count({}[5]) > = 3", "count({}[5]) ^= 3", "count({}[5]) <> 3", "count({}[5]) => 3", "count({}[5]) =< 3", "count({}[5]) === 3", "count({}[5]) <== 3", "count({}[5]) 3", "count({}[5]) : 3", "count({}[5]) - 3", "count({}[5]) is 3", "count({}[5]) and 3", `count({}[5]) "<" 3`, "count({}[5]) << 3", "count({}[5]) >> 3")
	wantRefused(t, "count({}[5]) ! 3", api.ErrLex)
	wantRefused(t, "count({}[5]) ~ 3", api.ErrLex)
}

// TestSelects: P10.2: none to six matchers, a , between each two of them.
func TestSelects(t *testing.T) {
	for i, sign := range []string{"=", "!=", "^="} {
		for _, s := range []string{`count({a` + sign + `"x"}[5]) > 3`, `count ( { a ` + sign + ` "x" } [ 5 ] ) > 3`} {
			wantNodes(t, s, []api.Node{{Select: []api.Matcher{{Name: "a", Op: uint8(i), Value: "x"}}, Window: 5, Compare: api.CGreater, Value: 3000}})
			wantWords(t, s)
		}
		one := `a` + sign + `"x"`
		for n := range 20 {
			l := slices.Repeat([]string{one}, n)
			all := strings.Join(l, ",")
			want := []api.Node{{Select: slices.Repeat([]api.Matcher{{Name: "a", Op: uint8(i), Value: "x"}}, n), Window: 5, Compare: api.CGreater, Value: 3000}}
			if n <= 6 {
				wantNodes(t, "count({"+all+"}[5]) > 3", want)
			} else {
				wantNone(t, "count({"+all+"}[5]) > 3")
			}
			wantNone(t, "count({"+all+",}[5]) > 3", "count({,"+all+"}[5]) > 3", "count({"+all+"[5]) > 3", "count("+all+"}[5]) > 3", "count({"+all+"}}[5]) > 3", "count({{"+all+"}[5]) > 3", "count(("+all+")[5]) > 3")
			if n >= 2 {
				wantNone(t, "count({"+strings.Join(l, " ")+"}[5]) > 3", "count({"+strings.Join(l, ",,")+"}[5]) > 3", "count({"+strings.Join(l, ";")+"}[5]) > 3", "count({"+strings.Join(l[1:], ",")+" "+one+"}[5]) > 3", "count({"+strings.Join(l, " and ")+"}[5]) > 3")
			}
		}
	}
	for _, m := range []string{"a", `"x"`, "a=", `="x"`, `a"x"`, `a=="x"`, `a<"x"`, `a>="x"`, `a=x`, `a=1`, `1="x"`, `"a"="x"`, `a-"x"`, `a:"x"`, `a=-"x"`, `a="x""y"`, `a="x"b="y"`, `a b="x"`, `a=="x"`, `(a="x")`, `{a="x"}`, `not a="x"`, `a = = "x"`} {
		wantNone(t, "count({"+m+"}[5]) > 3")
	}
	wantNone(t, "count([5]) > 3", "count([5]{}) > 3", "count({}{}[5]) > 3", "count{}[5] > 3", "count({})[5] > 3", "count({} and {}[5]) > 3")
}

// TestMatchers: P10.2: names of 1 to 16 bytes, any word among them; values of none to 32 bytes, without their \ counted.
func TestMatchers(t *testing.T) {
	read := func(name, value string) string { return "count({" + name + "=" + value + "}[5]) > 3" }
	for n := 1; n < 40; n++ {
		for _, c := range []struct{ name, value string }{{strings.Repeat("n", n), `"x"`}, {"a" + strings.Repeat("_", n-1), `""`}, {"a" + strings.Repeat("1", n-1), `""`}, {"a", `"` + strings.Repeat("v", n) + `"`}, {"a", `"` + strings.Repeat(`\"`, n) + `"`}, {"a", `"` + strings.Repeat(`\\`, n) + `"`}, {"a", `"` + strings.Repeat(" ", n) + `"`}} {
			s := read(c.name, c.value)
			wantWords(t, s)
			if _, e := Parse(s); (e == api.OK) != (len(c.name) <= 16 && len(unescape.Replace(c.value)) <= 34) {
				t.Errorf("Parse %q: error %d", s, e)
			}
		}
	}
	for _, name := range []string{"count", "sum", "min", "max", "mean", "last", "and", "or", "not", "rule", "a_", "z9"} {
		wantNodes(t, read(name, `"\"\\"`), []api.Node{{Select: []api.Matcher{{Name: name, Value: `"\`}}, Window: 5, Compare: api.CGreater, Value: 3000}})
		wantNodes(t, read("a", `"`+name+`"`), []api.Node{{Select: []api.Matcher{{Name: "a", Value: name}}, Window: 5, Compare: api.CGreater, Value: 3000}})
	}
	for c := range 256 {
		for _, s := range []string{string([]byte{byte(c)}), "a" + string([]byte{byte(c)})} {
			wantWords(t, read("a", `"`+s+`"`))
			wantWords(t, read(s, `"x"`))
		}
	}
}

// TestWindows: P10.2: digits alone, from 1 to 1000, with noughts ahead or not.
func TestWindows(t *testing.T) {
	read := func(window string) string { return "count({}[" + window + "]) > 3" }
	for n := range 2100 {
		for _, s := range []string{fmt.Sprint(n), fmt.Sprintf("%05d", n), fmt.Sprintf("%0100d", n)} {
			if n >= 1 && n <= 1000 {
				wantNodes(t, read(s), []api.Node{{Window: n, Compare: api.CGreater, Value: 3000}})
			} else {
				wantNone(t, read(s))
			}
		}
	}
	wantNodes(t, read(strings.Repeat("0", 4000)+"7"), []api.Node{{Window: 7, Compare: api.CGreater, Value: 3000}})
	for _, s := range []string{"", "0", "00", "1001", "9999", "10000", "1.0", "5.0", "0.5", "1000.0", "5.5", "-1", "-5", "-0", "- 5", "--5", "5 5", "5,5", "5-5", "a", "five", `"5"`, "(5)", "[5]", "5]", "5m", "1 000",
		"4294967296", "4294967297", "4294967301", "18446744073709551616", "18446744073709551617", "18446744073709551621", "9223372036854775807", "9223372036854775808", "1" + strings.Repeat("0", 4000), strings.Repeat("9", 4000), strings.Repeat("0", 4000), "1." + strings.Repeat("0", 4000)} {
		wantNone(t, read(s))
	}
	wantNone(t, "count({}) > 3", "count({}5) > 3", "count({}[5) > 3", "count({}5]) > 3", "count({}(5)) > 3", "count({}{5}) > 3", "count({}[5][5]) > 3", "count({}[[5]]) > 3", "count({}[5]]) > 3")
}

// TestValues: P10.2: a number's text, with a - ahead or not.
func TestValues(t *testing.T) {
	read := func(value string) string { return "count({}[5]) > " + value }
	for s, want := range map[string]int64{
		"0": 0, "-0": 0, "- 0": 0, "-0.000": 0, "0.0": 0, "1": 1000, "-1": -1000, "- 1": -1000, "-\n1": -1000, "-#x\n1": -1000, "1.5": 1500, "-1.5": -1500, "0.001": 1, "-0.001": -1, "0.01": 10, "0.1": 100, "1.50": 1500, "1.500": 1500, "1.234": 1234, "007.10": 7100, "-007.10": -7100, "000": 0, "-00": 0,
		"4611686018427387.903": end, "4611686018427387.904": end, "4611686018427387.9": end - 3, "4611686018427388": end, "-4611686018427387.903": -end, "-4611686018427387.904": -end, "9223372036854775.807": end, "9223372036854775807": end, "9223372036854775808": end, "-9223372036854775808": -end, "18446744073709551616": end, "-18446744073709551617": -end,
		strings.Repeat("9", 4000): end, "-" + strings.Repeat("9", 4000): -end, strings.Repeat("0", 4000): 0, strings.Repeat("0", 4000) + "1.5": 1500, "1" + strings.Repeat("0", 4000) + ".001": end,
	} {
		wantNodes(t, read(s), []api.Node{{Window: 5, Compare: api.CGreater, Value: want}})
		wantWords(t, read(s))
		wantWords(t, "("+read(s)+")and "+read(s))
	}
	wantNone(t, read(""), read("-"), read("--1"), read("- -1"), read("---1"), read("1.2345"), read("-1.2345"), read("0.0000"), read("1.0000"), read("1."+strings.Repeat("0", 3999)), read("a"), read("-a"), read("a1"), read(`"1"`), read("(1)"), read("-(1)"), read("[1]"), read("1 1"), read("1-1"), read("1 - 1"), read("1-"), read("=1"), read("1,5"), read("1 a"), read("count({}[5])"), read("1 000"), read("1;"))
	for _, s := range []string{"1.", ".5", "-.5", "1.2.3", "+1", "1e3!", "1_000", "- .5"} {
		wantRefused(t, read(s), api.ErrLex)
	}
	wantNone(t, read("1e3"), read("0x10"), read("1k"))
}

// TestOperators: P10.2: and holds together more than or, not more than and; one stands with all that is on its left.
func TestOperators(t *testing.T) {
	for s, want := range map[string]string{
		"A": "A", "A and B": "A B &0,1", "A or B": "A B |0,1", "not A": "A !0",
		"A or B or C": "A B |0,1 C |2,3", "A and B or C": "A B &0,1 C |2,3", "A or B and C": "A B C &1,2 |0,3", "A and B and C and D": "A B &0,1 C &2,3 D &4,5", "A or B or C or D": "A B |0,1 C |2,3 D |4,5",
		"A or B and C or D": "A B C &1,2 |0,3 D |4,5", "A and B or C and D": "A B &0,1 C D &3,4 |2,5", "A and B and C or D": "A B &0,1 C &2,3 D |4,5", "A or B or C and D": "A B |0,1 C D &3,4 |2,5", "A or B and C and D": "A B C &1,2 D &3,4 |0,5", "A or B and C or D and E or F": "A B C &1,2 |0,3 D E &5,6 |4,7 F |8,9",
		"not A and B": "A !0 B &1,2", "A and not B": "A B !1 &0,2", "not A or B": "A !0 B |1,2", "A or not B": "A B !1 |0,2", "not A and not B or not C": "A !0 B !2 &1,3 C !5 |4,6", "not not A": "A !0 !1", "not not not A": "A !0 !1 !2", "A and not not B": "A B !1 !2 &0,3", "not not A or B": "A !0 !1 B |2,3",
		"A and A": "A A &0,1", "A or A or A": "A A |0,1 A |2,3", "E and F": "E F &0,1", "D or (F)": "D F |0,1",
	} {
		wantBrief(t, s, want)
		wantBrief(t, "("+s+")", want)
		wantBrief(t, strings.ReplaceAll(s, " ", "\n# or\n"), want)
	}
	wantNone(t, "and", "or", "not", "A and", "A or", "and A", "or A", "A not", "A not B", "A and and B", "A or or B", "A and or B", "A or and B", "not and A", "not or A", "A and not", "A or not", "A not and B", "A B", "not A B", "not", "not not", "A and B or", "A and B C", "A, B", "A; B", "A = B", "A == B", "A ^= B", "- A", "not - A", "A < B", "A - B", "A;", "; A", "A,", "A:", "A)", "and and and", "A and ()", "nor A", "A nand B", "A andalso B", `A "and" B`, `"not" A`)
}

// TestParentheses: P10.2: what stands in them is one; they have no node.
func TestParentheses(t *testing.T) {
	for s, want := range map[string]string{
		"(A)": "A", "((A))": "A", "(((((((A)))))))": "A", "(A) and (B)": "A B &0,1", "((A) and B)": "A B &0,1", "(A and B) and C": "A B &0,1 C &2,3", "A and (B or C)": "A B C |1,2 &0,3", "(A or B) and C": "A B |0,1 C &2,3", "(A or B) and (C or D)": "A B |0,1 C D |3,4 &2,5", "A or (B or C)": "A B C |1,2 |0,3", "A or (B and C)": "A B C &1,2 |0,3", "(A and B) or C": "A B &0,1 C |2,3",
		"A and ((B or C) and D)": "A B C |1,2 D &3,4 &0,5", "A or (B or (C or D))": "A B C D |2,3 |1,4 |0,5", "((A or B) or C) or D": "A B |0,1 C |2,3 D |4,5", "A and (B and (C and (D and (E and F))))": "A B C D E F &4,5 &3,6 &2,7 &1,8 &0,9",
		"not (A)": "A !0", "(not A)": "A !0", "not (A and B)": "A B &0,1 !2", "not (A or B)": "A B |0,1 !2", "(not A) and B": "A !0 B &1,2", "not ((A) and B)": "A B &0,1 !2", "not (not A)": "A !0 !1", "not not (A and B)": "A B &0,1 !2 !3", "not (not (A or B) and C)": "A B |0,1 !2 C &3,4 !5", "A and not (B and C)": "A B C &1,2 !3 &0,4", "A or (not B)": "A B !1 |0,2", "not (A) and B": "A !0 B &1,2", "not (A) or (B)": "A !0 B |1,2", "(not (A or B)) and C": "A B |0,1 !2 C &3,4",
	} {
		wantBrief(t, s, want)
		wantBrief(t, strings.NewReplacer("(", "((", ")", "))").Replace(s), want)
		wantBrief(t, strings.NewReplacer("(", "( ", ")", " )").Replace(s), want)
		wantNone(t, "("+s, s+")", "(("+s+")", "("+s+"))", s+"(", ")"+s, s+"()", "()"+s, s+" and ()", "not ()"+s, s+"(A)", "("+s+")("+s+")", "("+s+") not ("+s+")", "("+s+" and", "("+s+" and )", "(and "+s+")", "("+s+",)", "{"+s+"}", "["+s+"]")
		for i := range s {
			if s[i] == '(' || s[i] == ')' {
				wantNone(t, s[:i]+s[i+1:], s[:i]+s[i:i+1]+s[i:], s[:i]+"["+s[i+1:])
			}
		}
	}
	wantNone(t, "()", "(", ")", ")(", "(()", "())", "(())", "not ()", "() and A", "A and ()", "A ()", "(A", "A)", "((A)", "(A))", "(A and)", "(and A)", "(not)", "(A B)", "A(B)", "(A)(B)", "(A and B", "A and B)", "A and (B", "A) and B", "A and (B))", ") and (", "A and )B(", "(A or) B", "A (or B)", "(A) or", "or (A)", "not (A", "not A)")
}

// TestManyParentheses: P10.2: as many as the text has room for.
func TestManyParentheses(t *testing.T) {
	const one = "sum({}[1])<0"
	room := (longest - len(one)) / 2
	for _, n := range []int{1, 2, 31, 32, 33, 100, 1000, room} {
		s := strings.Repeat("(", n) + one + strings.Repeat(")", n)
		wantNodes(t, s, []api.Node{{Agg: api.ASum, Window: 1}})
		for _, s := range []string{s[1:], s[:len(s)-1], strings.Repeat("(", n), strings.Repeat(")", n), strings.Repeat("(", n) + strings.Repeat(")", n), strings.Repeat("(", n) + one, one + strings.Repeat(")", n), s[:n] + ")" + s[n:len(s)-1]} {
			wantRefused(t, s, api.ErrExpr)
		}
	}
	wantRefused(t, strings.Repeat("(", longest), api.ErrExpr)
	wantRefused(t, strings.Repeat("(", longest+1), api.ErrLong)
	wantRefused(t, strings.Repeat("not ", longest/4), api.ErrExpr)
	wantRefused(t, strings.Repeat("not(", longest/4), api.ErrExpr)
	s := strings.Repeat("not(", 30) + one + strings.Repeat(")", 30)
	wantWords(t, s)
	wantWords(t, "not("+s+")")
}

// TestFull: P10.2: 31 nodes, not 32: by comparisons, by not, and by both.
func TestFull(t *testing.T) {
	for _, word := range []string{" and ", " or "} {
		for n := 1; n <= 40; n++ {
			row := strings.Repeat("A"+word, n-1) + "A"
			for nots, s := range []string{row, "not (" + row + ")"} {
				text := spell(s)
				wantWords(t, text)
				nodes, e := Parse(text)
				if count := 2*n - 1 + nots; count <= most {
					check(t, text, e == api.OK && len(nodes) == count)
				} else {
					wantRefused(t, text, api.ErrFull)
				}
			}
			right := spell(strings.Repeat("A"+word+"(", n-1) + "A" + strings.Repeat(")", n-1))
			if nodes, e := Parse(right); n <= 16 {
				check(t, right, e == api.OK && len(nodes) == 2*n-1)
			} else {
				wantRefused(t, right, api.ErrFull)
			}
		}
	}
	for n := range 1000 {
		s := spell(strings.Repeat("not ", n) + "A")
		if nodes, e := Parse(s); n <= 30 {
			check(t, s, e == api.OK && len(nodes) == n+1 && nodes[n].Left == max(n-1, 0))
		} else {
			wantRefused(t, s, api.ErrFull)
		}
	}
	for nots := range 35 {
		for n := 1; n < 17; n++ {
			s := spell(strings.Repeat("A and ", n-1) + strings.Repeat("not ", nots) + "A")
			wantWords(t, s)
			if _, e := Parse(s); (e == api.OK) != (2*n-1+nots <= most) {
				t.Errorf("%d comparisons, %d nots: error %d", n, nots, e)
			}
		}
	}
}

// TestErrors: P10.2, P0.2: ErrLong ahead of ErrLex, ErrLex ahead of ErrExpr, ErrExpr ahead of ErrFull, wherever each of them comes from.
func TestErrors(t *testing.T) {
	full := spell(strings.Repeat("A or ", 16) + "A")
	nots := spell(strings.Repeat("not ", 31) + "A")
	long := strings.Repeat(" ", longest)
	for _, s := range []string{"", spell("A"), "(", "!", full, nots, full + ")", full + " !"} {
		wantRefused(t, s+long+"x", api.ErrLong)
		wantRefused(t, long+" "+s, api.ErrLong)
		wantRefused(t, s+" !", api.ErrLex)
		wantRefused(t, "! "+s, api.ErrLex)
		wantRefused(t, s+" \"", api.ErrLex)
		wantRefused(t, "_"+s, api.ErrLex)
	}
	for _, s := range []string{full, nots, "(" + full + ")", "not (" + full + ")", "not (" + nots + ")", full + " and " + full, "not " + full} {
		wantRefused(t, s, api.ErrFull)
		wantRefused(t, s+"#!", api.ErrFull)
		wantRefused(t, s+strings.Repeat(" ", longest-len(s)), api.ErrFull)
		for _, behind := range []string{" and", " or", ")", " not", " (", ";", " A", " 5", " and (", " or not", " and A and", " and count", " and B and (C", " or B)", "."} {
			want := api.ErrExpr
			if behind == "." {
				want = api.ErrLex
			}
			wantRefused(t, s+spell(behind), want)
		}
		for _, ahead := range []string{"and ", "or ", "(", ")", "A ", "5 ", "; ", "() and ", "(A or) and ", "count({}[0]) > 1 or ", "count({}[5]) = 1 and "} {
			wantRefused(t, spell(ahead)+s, api.ErrExpr)
		}
		for _, more := range []string{" and count({}[0]) > 1", " or count({}[5]) > 1.2345", " and count({a=\"x\",}[5]) > 1", " or ()", " and not", " or (A"} {
			wantRefused(t, s+spell(more), api.ErrExpr)
		}
		wantRefused(t, s+spell(" and A"), api.ErrFull)
		wantRefused(t, spell("A or ")+s, api.ErrFull)
	}
}

// TestTogether: P10.2: what is written together: words are as long as they can be, signs part.
func TestTogether(t *testing.T) {
	for s, want := range map[string]string{
		"not(A)": "A !0", "not(A)and(B)": "A !0 B &1,2", "(A)and(B)or(C)": "A B &0,1 C |2,3", "A\nand\nB": "A B &0,1", "A#x\nand#(\nB": "A B &0,1", "not\tnot\rnot(A)": "A !0 !1 !2", "Aand B": "A B &0,1", "Aor B": "A B |0,1", "(A)and B": "A B &0,1", "(A)or not B": "A B !1 |0,2",
	} {
		wantBrief(t, s, want)
	}
	wantNone(t, "notA", "A andB", "A orB", "A and notB", "notnot A", "not_A", "A and_B", "A or1 B", "Aandnot B", "andA", "nota", "A nandB")
	for _, s := range []string{"count({}[5])>3and count({}[5])>4", "count({}[5])>3or count({}[5])>4", "count({}[5])>-3and(count({}[5])>4)", "count({}[5])>=0.5and not(count({}[5])<=1)"} {
		wantWords(t, s)
		check(t, s, func() bool { _, e := Parse(s); return e == api.OK }())
	}
	wantNone(t, "count({}[5])>3andcount({}[5])>4", "notcount({}[5])>3", "count({}[5])>3and notcount({}[5])>4", "count({}[5])> =3")
}

// TestTwo: P10.2: two conditions one behind the other are none.
func TestTwo(t *testing.T) {
	l := []string{"A", "(A)", "not A", "A and B", "A or B", "not (A or B)", "A and (B or C)"}
	for _, a := range l {
		for _, b := range l {
			wantNone(t, a+" "+b, a+"\n"+b, a+"; "+b, a+", "+b, a+" ("+b+")", "("+a+" "+b+")", a+" "+b+" and A", "A and "+a+" "+b)
			for _, s := range []string{a + " and " + b, a + " or " + b, "not " + a + " and " + b} {
				wantWords(t, spell(s))
			}
		}
	}
}

// grow hands over every row of at most n of these parts.
func grow(parts []string, n int, f func(row []string)) {
	var more func(row []string)
	more = func(row []string) {
		f(row)
		if len(row) < n {
			for _, one := range parts {
				more(append(row, one))
			}
		}
	}
	more(nil)
}

// TestShortRows: P10.2: every row of up to six comparisons, operators and parentheses.
func TestShortRows(t *testing.T) {
	words := map[string]string{"c": "sum({}[1])<0", "&": "and", "|": "or", "!": "not", "(": "(", ")": ")"}
	one := api.Node{Agg: api.ASum, Window: 1}
	right := 0
	grow([]string{"c", "&", "|", "!", "(", ")"}, 6, func(row []string) {
		parts := ofSymbols(strings.Join(row, ""))
		texts := make([]string, len(row))
		for i := range row {
			texts[i] = words[row[i]]
			if row[i] == "c" {
				parts[i].node = one
			}
		}
		want, used, e := wantRow(parts)
		s := strings.Join(texts, " ")
		if e != api.OK || used < len(row) {
			wantRefused(t, s, api.ErrExpr)
			return
		}
		right++
		wantNodes(t, s, want)
	})
	check(t, "enough of them", right > 60)
}

// TestOneToken: P10.2: right texts of which one token is otherwise, more, or missing, or two of them.
func TestOneToken(t *testing.T) {
	others := []string{"count", "and", "or", "not", "a", "0", "5", "1.5", "1001", `""`, `"x"`, `"` + strings.Repeat("v", 33) + `"`, strings.Repeat("n", 17), "<=", "!=", "^=", "==", "=", "<", "-", "{", "}", "(", ")", "[", "]", ",", ":", ";"}
	for _, s := range []string{"A", "B", `max({a!="x"}[7]) >= -2`, "not (A)", `(count({a="x"}[5]) > 3) and B`, "A or not A"} {
		var l []string
		for _, one := range tokens(s) {
			text := one.Text
			if one.Kind == 3 {
				text = `"` + escape.Replace(text) + `"`
			}
			l = append(l, text)
		}
		wantWords(t, strings.Join(l, " "))
		for i := range len(l) + 1 {
			for j := i; j <= min(i+2, len(l)); j++ {
				wantWords(t, strings.Join(slices.Concat(l[:i], l[j:]), " "))
				for _, a := range others {
					wantWords(t, strings.Join(slices.Concat(l[:i], []string{a}, l[j:]), " "))
				}
			}
			for _, a := range others {
				for _, b := range others {
					wantWords(t, strings.Join(slices.Concat(l[:i], []string{a, b}, l[min(i+1, len(l)):]), " "))
				}
			}
		}
	}
}

// TestOneByte: P10.2: each beginning and each end of right texts, and right texts of which one byte is otherwise, more, or missing.
func TestOneByte(t *testing.T) {
	for _, s := range []string{spell("A"), spell("B and(not C)"), `not min({a!="\"",b^=""}[10])<=-0.5`} {
		for i := range len(s) + 1 {
			wantWords(t, s[:i])
			wantWords(t, s[i:])
			for _, b := range []byte("\x00\n !\"#(),-.0159<=>A[\\]^_anort{}\xff") {
				wantWords(t, s[:i]+string([]byte{b})+s[i:])
				if i < len(s) {
					wantWords(t, s[:i]+string([]byte{b})+s[i+1:])
				}
			}
			if i < len(s) {
				wantWords(t, s[:i]+s[i+1:])
			}
		}
	}
}

// TestParseDrawn: P10.2: drawn conditions, with any gaps and parentheses; and the same with a piece changed.
func TestParseDrawn(t *testing.T) {
	r := rand.New(rand.NewSource(2))
	for range 1500 {
		one := someTree(r, r.Intn(8)+1)
		s := one.laid(r)
		if len(s) > longest {
			wantRefused(t, s, api.ErrLong)
			continue
		}
		wantNodes(t, s, one.row())
		wantWords(t, s)
		for range 3 {
			i := r.Intn(len(s))
			j := min(i+r.Intn(4), len(s))
			wantWords(t, s[:i]+pick(r, "", "(", ")", " and ", " or ", "not ", "=", "-", "5", ",")+s[j:])
		}
	}
	for range 300 {
		one := someTree(r, r.Intn(40)+1)
		s := one.laid(r)
		switch nodes := one.row(); {
		case len(s) > longest:
			wantRefused(t, s, api.ErrLong)
		case len(nodes) > most:
			wantRefused(t, s, api.ErrFull)
		default:
			wantNodes(t, s, nodes)
		}
	}
}
