package expr

import (
	"fmt"
	"math/rand"
	"reflect"
	"regexp"
	"slices"
	"strconv"
	"strings"
	"testing"

	"tocsin/api"
	"tocsin/lex"
)

// The words of the chapter once more: a comparison by a regular expression over tokens that are spelt out, the rest by all ways in which a row of symbols can be cut in two.
const (
	matcherForm = `1"[a-z][a-z0-9_]{0,15}";4"(?:=|!=|\^=)";3"(?:[ !#-\[\]-~]|\\["\\]){0,32}";`
	selectForm  = `(?:` + matcherForm + `(?:4",";` + matcherForm + `){0,5})?`
	windowForm  = `0*([1-9][0-9]{0,2}|1000)`
)

var (
	comparisonForm = regexp.MustCompile(`\A1"(count|sum|min|max|mean|last)";4"\(";4"\{";(` + selectForm + `)4"\}";4"\[";2"` + windowForm + `";4"\]";4"\)";4"(<=?|>=?|==|!=)";(?:4"(-)";)?2"([^"]*)";`)
	oneForm        = regexp.MustCompile(`1"([^"]*)";4"([^"]*)";3"((?:[^"\\]|\\.)*)";`)
	numberForm     = regexp.MustCompile(`\A-?[0-9]+(?:\.[0-9]{1,3})?\z`)
	nameForm       = regexp.MustCompile(`\A[a-z][a-z0-9_]{0,15}\z`)
	valueForm      = regexp.MustCompile(`\A[ -~]{0,32}\z`)

	escape   = strings.NewReplacer(`"`, `\"`, `\`, `\\`)
	unescape = strings.NewReplacer(`\"`, `"`, `\\`, `\`)
)

// The chapter's words and signs in the order of their numbers; the symbols of the kinds of nodes; and the bounds, as the document has them.
var (
	aggs   = []string{"count", "sum", "min", "max", "mean", "last"}
	cmps   = []string{"<", "<=", ">", ">=", "==", "!="}
	asks   = []string{"=", "!=", "^="}
	symbol = map[uint8]string{api.NCompare: "c", api.NAnd: "&", api.NOr: "|", api.NNot: "!"}
	kinds  = map[string]uint8{"&": api.NAnd, "|": api.NOr, "!": api.NNot}
)

const (
	most    = 31
	longest = 4096
	end     = 1<<62 - 1
)

// tree is a condition: of its nodes the last one, and what that one has.
type tree struct {
	node        api.Node
	left, right *tree
}

// row is its nodes, in the chapter's order.
func (t *tree) row() []api.Node {
	var nodes []api.Node
	own := t.node
	for _, side := range []struct {
		t    *tree
		last *int
	}{{t.left, &own.Left}, {t.right, &own.Right}} {
		if side.t == nil {
			continue
		}
		ahead := len(nodes)
		for _, n := range side.t.row() {
			if n.Kind != api.NCompare {
				n.Left += ahead
			}
			if n.Kind == api.NAnd || n.Kind == api.NOr {
				n.Right += ahead
			}
			nodes = append(nodes, n)
		}
		*side.last = len(nodes) - 1
	}
	return append(nodes, own)
}

// part is a piece of a condition: a comparison, or a symbol; and of how many tokens.
type part struct {
	symbol string
	node   api.Node
	tokens int
}

// cut is the parts that tokens begin with, up to what is none.
func cut(l []lex.Token) []part {
	var parts []part
	symbols := map[string]string{`1"and";`: "&", `1"or";`: "|", `1"not";`: "!", `4"(";`: "(", `4")";`: ")"}
	for len(l) > 0 {
		one := part{symbols[spelt(l[:1])], api.Node{}, 1}
		if n, tokens := wantComparison(spelt(l)); tokens > 0 {
			one = part{"c", n, tokens}
		} else if one.symbol == "" {
			break
		}
		parts = append(parts, one)
		l = l[one.tokens:]
	}
	return parts
}

// spelt is tokens written out: of each the kind, and the text in quotes; of many of them so many as a comparison can have.
func spelt(l []lex.Token) string {
	var s strings.Builder
	for _, one := range l[:min(len(l), 50)] {
		s.WriteString(strconv.Itoa(int(one.Kind)) + strconv.Quote(one.Text) + ";")
	}
	return s.String()
}

// wantComparison is the comparison that spelt tokens begin with, and how many they are: 0, if there is none.
func wantComparison(s string) (api.Node, int) {
	found := comparisonForm.FindStringSubmatch(s)
	if found == nil || !numberForm.MatchString(found[5]+found[6]) {
		return api.Node{}, 0
	}
	n := api.Node{Agg: uint8(slices.Index(aggs, found[1])), Compare: uint8(slices.Index(cmps, found[4])), Value: wantValue(found[5] + found[6])}
	n.Window, _ = strconv.Atoi(found[3])
	for _, one := range oneForm.FindAllStringSubmatch(found[2], -1) {
		n.Select = append(n.Select, api.Matcher{Name: one[1], Op: uint8(slices.Index(asks, one[2])), Value: unescape.Replace(one[3])})
	}
	tokens := 10 + 4*len(n.Select) - min(len(n.Select), 1)
	if found[5] != "" {
		tokens++
	}
	return n, tokens
}

// wantValue is the thousandths that a number's text says.
func wantValue(s string) int64 {
	digits, negative := strings.CutPrefix(s, "-")
	whole, part, _ := strings.Cut(digits, ".")
	x, err := strconv.ParseInt(whole+(part + "000")[:3], 10, 64)
	if err != nil || x > end {
		x = end
	}
	if negative {
		x = -x
	}
	return x
}

// cutter knows which of the pieces of a row are conditions.
type cutter struct {
	parts []part
	known []*tree
	asked []bool
}

// of is the condition that the parts from i to j are: 0: of or, 1: of and, 2: of neither; nil, if they are none.
func (c *cutter) of(i, j, strength int) *tree {
	if i >= j {
		return nil
	}
	key := (i*len(c.parts)+j-1)*3 + strength
	if !c.asked[key] {
		c.known[key], c.asked[key] = c.cutInTwo(i, j, strength), true
	}
	return c.known[key]
}

func (c *cutter) cutInTwo(i, j, strength int) *tree {
	first, last := c.parts[i], c.parts[j-1]
	switch {
	case strength < 2:
		for k := i; k < j; k++ {
			if c.parts[k].symbol != "|&"[strength:strength+1] {
				continue
			}
			if left, right := c.of(i, k, strength), c.of(k+1, j, strength+1); left != nil && right != nil {
				return &tree{api.Node{Kind: kinds[c.parts[k].symbol]}, left, right}
			}
		}
		return c.of(i, j, strength+1)
	case first.symbol == "c" && j == i+1:
		return &tree{first.node, nil, nil}
	case first.symbol == "!":
		if left := c.of(i+1, j, 2); left != nil {
			return &tree{api.Node{Kind: api.NNot}, left, nil}
		}
	case first.symbol == "(" && last.symbol == ")":
		return c.of(i+1, j-1, 0)
	}
	return nil
}

// wantRow is the longest condition that parts begin with: its nodes, and of how many parts it is. Of too many nodes the parts are told, too.
func wantRow(parts []part) (nodes []api.Node, used int, e api.Errno) {
	room := len(parts) * len(parts) * 3
	c := &cutter{parts, make([]*tree, room), make([]bool, room)}
	for n := len(parts); n > 0; n-- {
		t := c.of(0, n, 0)
		if t == nil {
			continue
		}
		if n < len(parts) && strings.Contains("&|", parts[n].symbol) {
			break
		}
		if nodes := t.row(); len(nodes) <= most {
			return nodes, n, api.OK
		}
		return nil, n, api.ErrFull
	}
	return nil, 0, api.ErrExpr
}

// wantRead is the longest condition that stands from that token on. Of too many nodes the next token is told, too.
func wantRead(l []lex.Token, at int) (nodes []api.Node, next int, e api.Errno) {
	if at < 0 || at >= len(l) {
		return nil, 0, api.ErrExpr
	}
	parts := cut(l[at:])
	nodes, used, e := wantRow(parts)
	if e == api.ErrExpr {
		return nil, 0, e
	}
	next = at
	for _, one := range parts[:used] {
		next += one.tokens
	}
	return nodes, next, e
}

// wantParse is the condition that a text is.
func wantParse(s string) ([]api.Node, api.Errno) {
	l, _, e := lex.All(s)
	if e != api.OK {
		return nil, e
	}
	nodes, next, e := wantRead(l, 0)
	if next < len(l) {
		return nil, api.ErrExpr
	}
	return nodes, e
}

// grown is the tree of the node of that number, of at most so many nodes; nil, if there is none.
func grown(nodes []api.Node, at int, room *int) *tree {
	*room--
	if at < 0 || at >= len(nodes) || *room < 0 {
		return nil
	}
	n := nodes[at]
	t := &tree{node: api.Node{Kind: n.Kind}}
	switch n.Kind {
	case api.NCompare:
		n.Left, n.Right = 0, 0
		t.node = n
		return t
	case api.NAnd, api.NOr:
		t.left, t.right = grown(nodes, n.Left, room), grown(nodes, n.Right, room)
		if t.right == nil {
			return nil
		}
	case api.NNot:
		t.left = grown(nodes, n.Left, room)
	default:
		return nil
	}
	if t.left == nil {
		return nil
	}
	return t
}

// wantTree is the condition whose nodes these are; nil, if they are not right: grown and written down again, they would be others.
func wantTree(nodes []api.Node) *tree {
	room := len(nodes)
	t := grown(nodes, len(nodes)-1, &room)
	bad := func(n api.Node) bool { return n.Kind == api.NCompare && !wantMay(n) }
	if len(nodes) > most || t == nil || !same(t.row(), nodes) || slices.ContainsFunc(nodes, bad) {
		return nil
	}
	return t
}

// wantMay says whether a comparison's parts may be.
func wantMay(n api.Node) bool {
	bad := slices.ContainsFunc(n.Select, func(one api.Matcher) bool {
		return int(one.Op) >= len(asks) || !nameForm.MatchString(one.Name) || !valueForm.MatchString(one.Value)
	})
	return int(n.Agg) < len(aggs) && int(n.Compare) < len(cmps) && len(n.Select) <= 6 && !bad && n.Window >= 1 && n.Window <= 1000 && n.Value >= -end && n.Value <= end
}

// needs says whether a node below another one would be read otherwise without parentheses: by symbols alone.
func needs(outer, inner string, right bool) bool {
	shape := map[string]string{"c": "c", "!": "!c", "&": "c&c", "|": "c|c"}[inner]
	read := func(x string) []api.Node {
		s := x + outer + "c"
		if outer == "!" {
			s = "!" + x
		} else if right {
			s = "c" + outer + x
		}
		nodes, _, _ := wantRow(ofSymbols(s))
		return nodes
	}
	return !same(read(shape), read("("+shape+")"))
}

// ofSymbols is parts, of which all comparisons are different ones.
func ofSymbols(symbols string) []part {
	var parts []part
	comparisons := 0
	for _, c := range symbols {
		one := part{symbol: string(c), tokens: 1}
		if c == 'c' {
			comparisons++
			one.node.Window = comparisons
		}
		parts = append(parts, one)
	}
	return parts
}

// written is a condition's text, with those parentheses alone that it needs.
func (t *tree) written() string {
	own := symbol[t.node.Kind]
	below := func(x *tree, right bool) string {
		if needs(own, symbol[x.node.Kind], right) {
			return "(" + x.written() + ")"
		}
		return x.written()
	}
	switch own {
	case "c":
		return wantText(t.node)
	case "!":
		return "not " + below(t.left, false)
	case "&":
		return below(t.left, false) + " and " + below(t.right, true)
	}
	return below(t.left, false) + " or " + below(t.right, true)
}

// wantText is a comparison's text.
func wantText(n api.Node) string {
	var parts []string
	for _, one := range n.Select {
		parts = append(parts, one.Name+asks[one.Op]+`"`+escape.Replace(one.Value)+`"`)
	}
	sign, x := "", n.Value
	if x < 0 {
		sign, x = "-", -x
	}
	number := strings.TrimSuffix(strings.TrimRight(fmt.Sprintf("%d.%03d", x/1000, x%1000), "0"), ".")
	return fmt.Sprintf("%s({%s}[%d]) %s %s%s", aggs[n.Agg], strings.Join(parts, ","), n.Window, cmps[n.Compare], sign, number)
}

// wantPrint is the text of nodes.
func wantPrint(nodes []api.Node) string {
	t := wantTree(nodes)
	if t == nil {
		return ""
	}
	return t.written()
}

// same says whether nodes are the same; a nil Select is an empty one.
func same(a, b []api.Node) bool {
	return slices.EqualFunc(a, b, func(x, y api.Node) bool {
		selects := slices.Equal(x.Select, y.Select)
		x.Select, y.Select = nil, nil
		return selects && reflect.DeepEqual(x, y)
	})
}

// atoms: six comparisons, for which the letters A to F stand in the tests' texts, and their nodes.
var atoms = []string{
	`count({}[5]) > 3`, `sum({a="x",b^=""}[60]) <= -1.5`, `last({}[1000]) != 0`, `min({n!="\"\\"}[1]) < 0.001`, `max({}[10]) == 4611686018427387.903`,
	`mean({a="1",b="2",c="3",a!="4",b!="5",c^="6"}[999]) >= -4611686018427387.903`,
}

func atomNodes() []api.Node {
	return []api.Node{
		{Agg: api.ACount, Window: 5, Compare: api.CGreater, Value: 3000},
		{Agg: api.ASum, Select: []api.Matcher{{Name: "a", Value: "x"}, {Name: "b", Op: api.MPrefix}}, Window: 60, Compare: api.CAtMost, Value: -1500},
		{Agg: api.ALast, Window: 1000, Compare: api.CUnlike},
		{Agg: api.AMin, Select: []api.Matcher{{Name: "n", Op: api.MUnlike, Value: `"\`}}, Window: 1, Compare: api.CLess, Value: 1},
		{Agg: api.AMax, Window: 10, Compare: api.CEqual, Value: end},
		{Agg: api.AMean, Select: []api.Matcher{{Name: "a", Value: "1"}, {Name: "b", Value: "2"}, {Name: "c", Value: "3"}, {Name: "a", Op: api.MUnlike, Value: "4"}, {Name: "b", Op: api.MUnlike, Value: "5"}, {Name: "c", Op: api.MPrefix, Value: "6"}}, Window: 999, Compare: api.CAtLeast, Value: -end},
	}
}

// spell puts the atoms in the place of their letters.
func spell(s string) string {
	for i, text := range atoms {
		s = strings.ReplaceAll(s, string(rune('A'+i)), text)
	}
	return s
}

// tokens are those of a text with letters for atoms.
func tokens(s string) []lex.Token {
	return tokensOf(spell(s))
}

// tokensOf are those of a text as it stands, piece by piece, if it is long.
func tokensOf(s string) []lex.Token {
	var all []lex.Token
	for s != "" {
		piece := s
		if len(s) > longest {
			piece = s[:strings.LastIndexByte(s[:longest], '\n')+1]
		}
		l, _, e := lex.All(piece)
		if e != api.OK {
			panic(short(piece))
		}
		all = append(all, l...)
		s = s[len(piece):]
	}
	return all
}

// brief is nodes in short: of an atom its letter, of the others the symbol and their own.
func brief(nodes []api.Node) string {
	known := atomNodes()
	var parts []string
	for _, n := range nodes {
		s := fmt.Sprintf("%+v", n)
		switch i := slices.IndexFunc(known, func(x api.Node) bool { return same([]api.Node{x}, []api.Node{n}) }); {
		case i >= 0:
			s = string(rune('A' + i))
		case same([]api.Node{{Kind: n.Kind, Left: n.Left, Right: n.Right}}, []api.Node{n}) && n.Kind == api.NNot && n.Right == 0:
			s = fmt.Sprintf("!%d", n.Left)
		case same([]api.Node{{Kind: n.Kind, Left: n.Left, Right: n.Right}}, []api.Node{n}) && (n.Kind == api.NAnd || n.Kind == api.NOr):
			s = fmt.Sprintf("%s%d,%d", symbol[n.Kind], n.Left, n.Right)
		}
		parts = append(parts, s)
	}
	return strings.Join(parts, " ")
}

func short(s string) string {
	return s[:min(len(s), 200)]
}

func check(t *testing.T, what string, ok bool) {
	t.Helper()
	if !ok {
		t.Errorf("%q", short(what))
	}
}

// wantRefused fails, unless Parse tells that error alone.
func wantRefused(t *testing.T, s string, want api.Errno) {
	t.Helper()
	if nodes, e := Parse(s); e != want || len(nodes) != 0 {
		t.Errorf("Parse %q: %s, error %d, want %d", short(s), short(brief(nodes)), e, want)
	}
}

// wantNodes fails, unless Parse tells these nodes; and these are right.
func wantNodes(t *testing.T, s string, want []api.Node) {
	t.Helper()
	if nodes, e := Parse(s); e != api.OK || !same(nodes, want) {
		t.Errorf("Parse %q: %s, error %d, want %s", short(s), short(brief(nodes)), e, short(brief(want)))
	}
	check(t, "right: "+s, Right(want))
}

// wantWords holds Parse of the text against the words; and what it tells is right, and written as the words say.
func wantWords(t *testing.T, s string) {
	t.Helper()
	want, e := wantParse(s)
	if e != api.OK {
		wantRefused(t, s, e)
		return
	}
	wantNodes(t, s, want)
	if got := Print(want); got != wantPrint(want) {
		t.Errorf("Print of %q: %q, want %q", short(s), short(got), short(wantPrint(want)))
	}
}

// wantBrief fails, unless Parse of a text with letters for atoms tells these nodes in short.
func wantBrief(t *testing.T, s, want string) {
	t.Helper()
	if nodes, e := Parse(spell(s)); e != api.OK || brief(nodes) != want {
		t.Errorf("Parse %q: %s, error %d, want %s", s, brief(nodes), e, want)
	}
	wantWords(t, spell(s))
}

// wantNone fails, unless each of these texts with letters for atoms is no condition.
func wantNone(t *testing.T, texts ...string) {
	t.Helper()
	for _, s := range texts {
		wantRefused(t, spell(s), api.ErrExpr)
		wantWords(t, spell(s))
	}
}

// wantFrom holds Read of the tokens from that one on against the words.
func wantFrom(t *testing.T, l []lex.Token, at int) {
	t.Helper()
	want, last, e := wantRead(l, at)
	if e != api.OK {
		last = 0
	}
	if nodes, next, got := Read(l, at); got != e || !same(nodes, want) || next != last {
		t.Errorf("Read %s from %d on: %s, %d, error %d, want %s, %d, error %d", short(spelt(l)), at, short(brief(nodes)), next, got, short(brief(want)), last, e)
	}
}

// pick draws one of these.
func pick[T any](r *rand.Rand, l ...T) T {
	return l[r.Intn(len(l))]
}

// someComparison draws a comparison that may be; many are at some edge.
func someComparison(r *rand.Rand) api.Node {
	n := api.Node{Agg: uint8(r.Intn(6)), Window: pick(r, 1, 2, 5, 10, 99, 100, 999, 1000, r.Intn(1000)+1), Compare: uint8(r.Intn(6))}
	n.Value = pick(r, 0, 1, -1, 10, 999, 1000, -1500, 7100, end, -end, end-1, r.Int63n(1e6), -r.Int63n(end), r.Int63n(end))
	for range r.Intn(7) {
		name := pick(r, "a", "b", "z9", "a_", "and", "or", "not", "count", "last", strings.Repeat("n", 16))
		value := pick(r, "", "x", " ", `"`, `\`, `\"`, "{}", "and", "# no", "y z", "~", strings.Repeat("v", 32), strings.Repeat(`"`, 32))
		n.Select = append(n.Select, api.Matcher{Name: name, Op: uint8(r.Intn(3)), Value: value})
	}
	return n
}

// someTree draws a condition of so many nodes.
func someTree(r *rand.Rand, nodes int) *tree {
	switch {
	case nodes == 1:
		return &tree{someComparison(r), nil, nil}
	case nodes == 2 || r.Intn(4) == 0:
		return &tree{api.Node{Kind: api.NNot}, someTree(r, nodes-1), nil}
	}
	left := r.Intn(nodes-2) + 1
	return &tree{api.Node{Kind: pick(r, api.NAnd, api.NOr)}, someTree(r, left), someTree(r, nodes-1-left)}
}

// someWrong changes something of nodes: most of them are not right behind it.
func someWrong(r *rand.Rand, nodes []api.Node) []api.Node {
	l := slices.Clone(nodes)
	i := r.Intn(len(l))
	n := &l[i]
	number := pick(r, -1, 0, 1, i-2, i-1, i, i+1, len(l)-1, len(l), 1<<62, -1<<62, r.Intn(len(l)))
	switch r.Intn(12) {
	case 0:
		n.Kind = pick(r, api.NCompare, api.NAnd, api.NOr, api.NNot, 4, 255)
	case 1:
		n.Left = number
	case 2:
		n.Right = number
	case 3:
		n.Left, n.Right = n.Right, n.Left
	case 4:
		n.Agg = pick[uint8](r, 0, 1, 5, 6, 255)
	case 5:
		n.Compare = pick[uint8](r, 0, 1, 5, 6, 255)
	case 6:
		n.Window = pick(r, -1, 0, 1, 1000, 1001, 1<<62)
	case 7:
		n.Value = pick[int64](r, 0, 1, end, end+1, -end, -end-1, 1<<63-1, -1<<63)
	case 8:
		n.Select = slices.Repeat([]api.Matcher{{Name: pick(r, "a", "", "A", strings.Repeat("n", 17)), Op: pick[uint8](r, 0, 2, 3), Value: pick(r, "", "x", "\x1f", strings.Repeat("v", 33))}}, r.Intn(8))
	case 9:
		return slices.Delete(l, i, i+1)
	case 10:
		return slices.Insert(l, i, pick(r, l...))
	case 11:
		j := r.Intn(len(l))
		l[i], l[j] = l[j], l[i]
	}
	return l
}

// gap draws what may stand between two tokens: a blank at least, or a remark; at times nothing.
func gap(r *rand.Rand) string {
	return pick(r, "", " ", " ", "\n", "\t \r\n", "# ) or ( \"\n", "  ")
}

// laid is a condition's text, with any gaps, and parentheses more than it needs.
func (t *tree) laid(r *rand.Rand) string {
	own := symbol[t.node.Kind]
	below := func(x *tree, right bool) string {
		s := x.laid(r)
		if needs(own, symbol[x.node.Kind], right) {
			s = "(" + gap(r) + s + gap(r) + ")"
		}
		return s
	}
	var s string
	switch own {
	case "c":
		for _, one := range tokens(wantText(t.node)) {
			text := one.Text
			switch {
			case one.Kind == lex.TText:
				text = `"` + escape.Replace(text) + `"`
			case one.Kind == lex.TNumber && strings.Contains(text, "."):
				text = pick(r, "", "00") + text
			case one.Kind == lex.TNumber:
				text = pick(r, "", "0", "000000000000000000000") + text
			}
			s += text + gap(r)
		}
	case "!":
		s = "not " + below(t.left, false)
	case "&":
		s = below(t.left, false) + gap(r) + " and " + gap(r) + below(t.right, true)
	default:
		s = below(t.left, false) + gap(r) + " or " + gap(r) + below(t.right, true)
	}
	for r.Intn(5) == 0 {
		s = "(" + gap(r) + s + gap(r) + ")"
	}
	return s
}

// TestDrawn: conditions are drawn as it is said, enough of each kind, so that the tests stand on something.
func TestDrawn(t *testing.T) {
	r := rand.New(rand.NewSource(1))
	right := 0
	for i := range 1000 {
		nodes := someTree(r, i%most+1).row()
		check(t, "so many", len(nodes) == i%most+1 && wantTree(nodes) != nil)
		if wantTree(someWrong(r, nodes)) != nil {
			right++
		}
	}
	check(t, "some are right still, most are not", right > 30 && right < 400)
	for i, n := range atomNodes() {
		check(t, atoms[i], wantText(n) == atoms[i] && wantMay(n))
		l := tokens(atoms[i])
		x, used := wantComparison(spelt(l))
		check(t, atoms[i], same([]api.Node{x}, []api.Node{n}) && used == len(l))
	}
}
