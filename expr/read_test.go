package expr

import (
	"math"
	"math/rand"
	"slices"
	"strings"
	"testing"

	"tocsin/api"
	"tocsin/lex"
)

// conditions: some of which each one ends where the text does, with letters for atoms.
func conditions() []string {
	return []string{"A", "B", "F", "(A)", "((B))", "not A", "not not (A)", "A and B", "A or B", "not A and B", "A or B and not C", "not (A or B)", "A and (B or C)", "((A) and B) or (C)", "D or E or F"}
}

// wantHere fails, unless Read from that token on tells what Parse of the condition does, and the token behind so many.
func wantHere(t *testing.T, l []lex.Token, at int, condition string, used int) {
	t.Helper()
	want, _ := Parse(spell(condition))
	if nodes, next, e := Read(l, at); e != api.OK || next != at+used || !same(nodes, want) || len(want) == 0 {
		t.Errorf("Read %s from %d on: %s, %d, error %d, want %q, %d", short(spelt(l)), at, brief(nodes), next, e, condition, at+used)
	}
	wantFrom(t, l, at)
}

// wantNotHere fails, unless Read from that token on tells that error alone.
func wantNotHere(t *testing.T, l []lex.Token, at int, want api.Errno) {
	t.Helper()
	if nodes, next, e := Read(l, at); e != want || next != 0 || len(nodes) != 0 {
		t.Errorf("Read %s from %d on: %s, %d, error %d, want %d", short(spelt(l)), at, brief(nodes), next, e, want)
	}
}

// TestReadEach: P10.1: from each token of a text on, and from numbers at which there is none.
func TestReadEach(t *testing.T) {
	texts := []string{"", ";", "x", "x A; B", "A B C", "not not A and (B or (C)) ; D", "rule hot by a: A and B for 0 every 5; late 2;", "(A or B) and C)", "( A", "A and", "and A or not B", "{}[5] > 3", "count({a=\"x\",b=\"y\"}[5]) > -3"}
	for _, s := range append(texts, conditions()...) {
		l := tokens(s)
		for at := -3; at < len(l)+4; at++ {
			wantFrom(t, l, at)
			if at < 0 || at >= len(l) {
				wantNotHere(t, l, at, api.ErrExpr)
			}
		}
		for _, at := range []int{math.MinInt, math.MinInt + 1, -1 << 62, -1 << 32, -len(l), 1 << 31, 1 << 32, 1 << 62, math.MaxInt - 1, math.MaxInt, math.MaxInt - len(l) + 1} {
			wantNotHere(t, l, at, api.ErrExpr)
		}
	}
	for _, at := range []int{-1, 0, 1, math.MinInt, math.MaxInt} {
		wantNotHere(t, nil, at, api.ErrExpr)
		wantNotHere(t, []lex.Token{}, at, api.ErrExpr)
	}
	l := tokens("x A; B")
	wantHere(t, l, 1, "A", 10)
	wantHere(t, l, 12, "B", len(l)-12)
	wantNotHere(t, l, len(l)-1, api.ErrExpr)
}

// TestReadWhole: P10.1: where nothing stands behind, the next token is the one behind the last one; the piece of a longer row is all there is.
func TestReadWhole(t *testing.T) {
	for _, s := range conditions() {
		l := tokens(s)
		wantHere(t, l, 0, s, len(l))
		wantHere(t, append(tokens("x ; not ("), l...), 4, s, len(l))
		long := append(slices.Clone(l), tokens("and A")...)
		wantHere(t, long[:len(l)], 0, s, len(l))
		wantNotHere(t, long[:len(l)+1], 0, api.ErrExpr)
	}
}

// TestReadBehind: P10.1: what isn't one further on doesn't matter.
func TestReadBehind(t *testing.T) {
	for _, s := range conditions() {
		used := len(tokens(s))
		for _, behind := range []string{";", ")", "))", ") and A", ") or", "(", "()", "(A)", ",", "A", "A and", "not", "not A", "not and", "count", "count(", "for 5 every 10 to ops;", "by", "=", "==", "> 3", "< 3", "-", "- 3", "5", "1.5", "{", "}", "[", "]", "[5]", `""`, `"and"`, `"or" A`, "andd A", "or1", "and_ A", ": and", "; or A", ", and A", "x and A", "5 and A"} {
			l := append(tokens(s), tokens(behind)...)
			wantHere(t, l, 0, s, used)
			wantHere(t, append(tokens("and ("), l...), 2, s, used)
		}
	}
}

// TestReadBegun: P10.1: where an `and`, an `or` stands behind, or a part is begun, it must go on.
func TestReadBegun(t *testing.T) {
	for _, s := range conditions() {
		for _, word := range []string{"and", "or"} {
			for _, behind := range []string{"", ";", ")", "(", "()", "and", "or", "and A", "or A", "not", "not not", "not ;", "(A", "(A and", "(A and )", "(A ;", "A and", "A or ;", "A and or A", "count", "count ;", "avg({}[5]) > 3", "count({}[0]) > 3", "count({}[5]) = 3", "count({}[5]) > 1.2345", "count({}[5]) > -", "5", "x", `"x"`, "{", "-", "A and (B or", "not (A", "not (A or B"} {
				wantNotHere(t, tokens(s+" "+word+" "+behind), 0, api.ErrExpr)
				wantFrom(t, tokens(s+" "+word+" "+behind), 0)
			}
			for _, more := range []string{"C", "not D", "(E and F)", "D and E", "D or E"} {
				whole := s + " " + word + " " + more
				used := len(tokens(whole))
				wantHere(t, tokens(whole), 0, whole, used)
				for _, behind := range []string{";", ")", "A", "not", "(", "5"} {
					wantHere(t, append(tokens(whole), tokens(behind)...), 0, whole, used)
				}
				wantNotHere(t, tokens(whole+" or"), 0, api.ErrExpr)
				wantNotHere(t, tokens(whole+" and ;"), 0, api.ErrExpr)
			}
		}
	}
	for _, a := range []string{"A", "B", "not A", "(A or B)", "not (not B and C)"} {
		l := tokens(a)
		for n := range l {
			wantNotHere(t, l[:n], 0, api.ErrExpr)
			wantNotHere(t, append(tokens("C and"), l[:n]...), 0, api.ErrExpr)
			wantNotHere(t, append(slices.Clone(l[:n]), tokens(";")...), 0, api.ErrExpr)
			wantNotHere(t, append(append(tokens("C or"), l[:n]...), tokens("; A")...), 0, api.ErrExpr)
		}
	}
}

// TestReadFull: P10.1: ErrFull of more than 31 nodes, whatever stands behind; but ErrExpr, if it must go on and doesn't.
func TestReadFull(t *testing.T) {
	for _, c := range []struct {
		s    string
		want api.Errno
	}{
		{strings.Repeat("A or ", 15) + "A", api.OK}, {strings.Repeat("not ", 30) + "A", api.OK}, {"(" + strings.Repeat("A and ", 15) + "A)", api.OK},
		{strings.Repeat("A or ", 16) + "A", api.ErrFull}, {strings.Repeat("not ", 31) + "A", api.ErrFull}, {"not (" + strings.Repeat("A and ", 15) + "A)", api.ErrFull}, {strings.Repeat("A or ", 1000) + "A", api.ErrFull}, {strings.Repeat("not ", 1000) + "A", api.ErrFull}, {strings.Repeat("(A or ", 100) + "A" + strings.Repeat(")", 100), api.ErrFull},
	} {
		var l []lex.Token
		for _, word := range strings.Fields(strings.NewReplacer("(", "( ", ")", " )").Replace(c.s)) {
			l = append(l, tokens(word)...)
		}
		for _, behind := range []string{"", ";", ")", "A", "not", "(", "5", ") and"} {
			all := append(slices.Clone(l), tokens(behind)...)
			if c.want != api.OK {
				wantNotHere(t, all, 0, c.want)
				continue
			}
			wantHere(t, all, 0, c.s, len(l))
		}
		for _, behind := range []string{"and", "or", "and ;", "or (", "and A or", "and not", "or count({}[0]) > 1"} {
			wantNotHere(t, append(slices.Clone(l), tokens(behind)...), 0, api.ErrExpr)
		}
		wantNotHere(t, append(tokens("("), l...), 0, api.ErrExpr)
		wantNotHere(t, append(tokens("count({}[0]) > 1 and"), l...), 0, api.ErrExpr)
	}
}

// TestReadMany: P10.1: very many tokens: parentheses, nots, matchers, operators; behind what is told too.
func TestReadMany(t *testing.T) {
	const many = 1 << 16
	one := tokens("A")
	rep := func(s string, n int) []lex.Token { return slices.Repeat(tokens(s), n) }
	all := func(l ...[]lex.Token) []lex.Token { return slices.Concat(l...) }
	deep := all(rep("(", many), one, rep(")", many))
	if nodes, next, e := Read(deep, 0); e != api.OK || next != len(deep) || brief(nodes) != "A" {
		t.Errorf("%d parentheses: %s, %d, error %d", many, brief(nodes), next, e)
	}
	if nodes, next, e := Read(deep, many); e != api.OK || next != many+len(one) || brief(nodes) != "A" {
		t.Errorf("the innermost one: %s, %d, error %d", brief(nodes), next, e)
	}
	if nodes, next, e := Read(all(one, rep(";", many)), 0); e != api.OK || next != len(one) || brief(nodes) != "A" {
		t.Errorf("many behind: %s, %d, error %d", brief(nodes), next, e)
	}
	wantNotHere(t, deep[:len(deep)-1], 0, api.ErrExpr)
	wantNotHere(t, all(deep, tokens("and")), 0, api.ErrExpr)
	wantNotHere(t, rep("(", many), 0, api.ErrExpr)
	wantNotHere(t, rep("not (", many/2), 0, api.ErrExpr)
	wantNotHere(t, rep("not", 1<<20), 0, api.ErrExpr)
	wantNotHere(t, all(rep("not", 1<<20), one), 0, api.ErrFull)
	wantNotHere(t, all(rep("not (", many/2), one, rep(")", many/2)), 0, api.ErrFull)
	wantNotHere(t, all(rep("A and", 1<<15), one), 0, api.ErrFull)
	wantNotHere(t, rep("A or", 1<<15), 0, api.ErrExpr)
	wantNotHere(t, all(tokens("count({"), rep(`a="x",`, many), tokens(`a="x"}[5]) > 3`)), 0, api.ErrExpr)
}

// TestReadStrange: P10.1, P0.1: tokens that no text has, in the place of each token.
func TestReadStrange(t *testing.T) {
	texts := []string{"", "and", "or", "not", "count", "last", "(", ")", "{", "}", "[", "]", ",", "=", "!=", "^=", "<", "<=", ">", ">=", "==", "-", ";", "!", "^", "x", "A", "a b", " a", "a ", "and ", "Count", "counts", "\x00", "\n", "\x1f", "\x7f", "\xff", "é", `"`, `\`, "5", "0", "05", "1001", "5.", ".5", "1.5", "1.2345", "+5", " 5", "5 ", "5\n", "5\x00", "1e3", "0x5", "1_0", "٥", "five", strings.Repeat("n", 17), strings.Repeat("v", 32), strings.Repeat("v", 33)}
	for _, s := range []string{"A", "B", "not (A) and B;", `sum({and!="x"}[60]) <= -1.5 or A`} {
		for i, one := range tokens(s) {
			l := tokens(s)
			for _, kind := range []uint8{0, 1, 2, 3, 4, 5, 9, 255} {
				l[i] = lex.Token{Kind: kind, Text: one.Text, At: one.At}
				wantFrom(t, l, 0)
				if kind != one.Kind && (s == "A" || s == "B") {
					wantNotHere(t, l, 0, api.ErrExpr)
				}
				for _, text := range texts {
					l[i].Text = text
					wantFrom(t, l, 0)
				}
			}
		}
	}
	for _, strange := range []lex.Token{{}, {Kind: 5, Text: "and"}, {Kind: lex.TSign, Text: "and"}, {Kind: lex.TText, Text: "or"}, {Kind: lex.TWord, Text: ")"}, {Kind: lex.TWord}, {Kind: lex.TSign}, {Kind: 255, Text: "\xff"}, {Kind: lex.TWord, Text: "and "}, {Kind: lex.TSign, Text: "&&"}} {
		l := append(tokens("A"), strange)
		wantHere(t, l, 0, "A", len(l)-1)
		wantNotHere(t, append([]lex.Token{strange}, l...), 0, api.ErrExpr)
		wantNotHere(t, append(tokens("A and"), strange), 0, api.ErrExpr)
	}
}

// TestReadStrangeTexts: P10.1: a TText's bytes from 32 to 126 alone, at most 32 of them; a TWord that is no name.
func TestReadStrangeTexts(t *testing.T) {
	l := tokens(`count({a="x"}[5]) > 3`)
	read := func(i int, text string) ([]api.Node, api.Errno) {
		own := slices.Clone(l)
		own[i].Text = text
		nodes, _, e := Read(own, 0)
		wantFrom(t, own, 0)
		return nodes, e
	}
	for c := range 256 {
		for _, text := range []string{string([]byte{byte(c)}), "x" + string([]byte{byte(c)}), strings.Repeat("v", 31) + string([]byte{byte(c)})} {
			nodes, e := read(5, text)
			check(t, text, (e == api.OK) == (c >= 32 && c <= 126) && (e != api.OK || nodes[0].Select[0].Value == text))
		}
		nodes, e := read(3, string([]byte{byte(c)}))
		check(t, "a name", (e == api.OK) == (c >= 'a' && c <= 'z') && (e != api.OK || nodes[0].Select[0].Name == string([]byte{byte(c)})))
	}
}

// TestReadPlaces: P10.1: where tokens begin in a text doesn't matter.
func TestReadPlaces(t *testing.T) {
	for _, s := range conditions() {
		l := tokens(s)
		for _, at := range []int{0, -1, 1 << 62, 5} {
			for i := range l {
				l[i].At = at - i
			}
			wantHere(t, l, 0, s, len(l))
		}
	}
}

// TestReadShortRows: P10.1: every row of up to five parts, from each on, among them what is none.
func TestReadShortRows(t *testing.T) {
	pieces := map[string]string{"c": "sum({}[1])<0", "&": "and", "|": "or", "!": "not", "(": "(", ")": ")", ";": ";"}
	one := api.Node{Agg: api.ASum, Window: 1}
	each := map[string][]lex.Token{}
	for symbol, s := range pieces {
		each[symbol] = tokens(s)
	}
	grow([]string{"c", "&", "|", "!", "(", ")", ";"}, 5, func(row []string) {
		parts := ofSymbols(strings.Join(row, ""))
		var l []lex.Token
		for i, symbol := range row {
			parts[i].tokens = len(each[symbol])
			if symbol == "c" {
				parts[i].node = one
			}
			l = append(l, each[symbol]...)
		}
		at := 0
		for i := range row {
			want, used, e := wantRow(parts[i:])
			next := at
			for _, one := range parts[i : i+used] {
				next += one.tokens
			}
			if e != api.OK {
				wantNotHere(t, l, at, e)
			} else if nodes, n, e := Read(l, at); e != api.OK || n != next || !same(nodes, want) {
				t.Errorf("Read %v from part %d on: %s, %d, error %d", row, i, brief(nodes), n, e)
			}
			at += parts[i].tokens
		}
	})
}

// TestReadDrawn: P10.1: drawn conditions among other tokens, by the words; and with tokens exchanged.
func TestReadDrawn(t *testing.T) {
	r := rand.New(rand.NewSource(3))
	for range 1500 {
		one := someTree(r, r.Intn(6)+1)
		l := tokensOf(one.laid(r))
		ahead, behind := tokens(pick(r, "", ";", "not", "( (", "x :", "and")), tokens(pick(r, "", ";", ")", "for 5", "A", "and", "or A", "and not", "or (A"))
		all := slices.Concat(ahead, l, behind)
		wantFrom(t, all, len(ahead))
		wantFrom(t, all, r.Intn(len(all)))
		for range 3 {
			i, j := r.Intn(len(all)), r.Intn(len(all))
			all[i], all[j] = all[j], all[i]
			wantFrom(t, all, len(ahead))
		}
		all[r.Intn(len(all))] = lex.Token{Kind: uint8(r.Intn(6)), Text: pick(r, all...).Text}
		wantFrom(t, all, len(ahead))
	}
}
