package check

import (
	"math"
	"math/rand"
	"slices"
	"strings"
	"testing"

	"tocsin/api"
)

// numbers are those at each bound of the document, beside them, and far away.
var numbers = []int{math.MinInt, -1 << 62, -1 << 32, -10001, -1000, -100, -2, -1, 0, 1, 2, 50, 99, 100, 101, 102, 500, 999, 1000, 1001, 1002, 1439, 1440, 1441, 9999, 10000, 10001, 10002, 1 << 16, 1<<32 + 1, 1 << 62, 1<<62 + 1, math.MaxInt}

// TestRuleExamples: P11.1: the chapter's.
func TestRuleExamples(t *testing.T) {
	wantRule(t, aRule(), true)
	for _, change := range []func(r *api.Rule){
		func(r *api.Rule) { r.For = 1001 },
		func(r *api.Rule) { r.Every = 0 },
		func(r *api.Rule) { r.Repeat = 0 },
		func(r *api.Rule) { r.Route = "meta" },
		func(r *api.Rule) { r.By = "A" },
		func(r *api.Rule) { r.Nodes = nil },
		func(r *api.Rule) { r.Mutes = []string{"q", "q"} },
	} {
		wantRule(t, aRule(change), false)
	}
	wantRule(t, api.Rule{}, false)
}

// TestRuleNumbers: P11.1: For, Every and Repeat.
func TestRuleNumbers(t *testing.T) {
	for _, n := range numbers {
		wantRule(t, aRule(func(r *api.Rule) { r.For = n }), n >= 0 && n <= 1000)
		wantRule(t, aRule(func(r *api.Rule) { r.Every = n }), n >= 1 && n <= 100)
		wantRule(t, aRule(func(r *api.Rule) { r.Repeat = n }), n >= 1 && n <= 10000)
	}
	for _, least := range []bool{true, false} {
		wantRule(t, aRule(func(r *api.Rule) {
			r.For, r.Every, r.Repeat = 1000, 100, 10000
			if least {
				r.For, r.Every, r.Repeat = 0, 1, 1
			}
		}), true)
	}
	wantRule(t, aRule(func(r *api.Rule) { r.For, r.Every, r.Repeat = 1000, 1, 1 }), true)
	wantRule(t, aRule(func(r *api.Rule) { r.For, r.Every, r.Repeat = 0, 100, 1 }), true)
}

// wantField holds a rule's field, or a mute's name, against each text.
func wantField(t *testing.T, want func(s string, may bool), empty, meta bool) {
	t.Helper()
	want("", empty)
	want("meta", meta)
	for _, s := range []string{"a", "z", "m", "a_", "a1", "z_9", "met", "metal", "meta_", "meta1", "met_a", "m_eta", "ameta", "atem", "host", "ops", "and", "rule", strings.Repeat("n", 15), strings.Repeat("n", 16), strings.Repeat("meta", 4)} {
		want(s, true)
	}
	for _, s := range notNames {
		want(s, false)
	}
	for i := range 256 {
		c := byte(i)
		small, more := c >= 'a' && c <= 'z', c >= '0' && c <= '9' || c == '_'
		want(string([]byte{c}), small)
		want(string([]byte{'a', c, 'z'}), small || more)
		want(strings.Repeat("n", 15)+string([]byte{c}), small || more)
	}
}

// TestRuleNames: P11.1: Name and Route are names, By is one, or empty; Route is not `meta`, the others may be.
func TestRuleNames(t *testing.T) {
	wantField(t, func(s string, may bool) {
		t.Helper()
		wantRule(t, aRule(func(r *api.Rule) { r.Name = s }), may)
	}, false, true)
	wantField(t, func(s string, may bool) {
		t.Helper()
		wantRule(t, aRule(func(r *api.Rule) { r.By = s }), may)
	}, true, true)
	wantField(t, func(s string, may bool) {
		t.Helper()
		wantRule(t, aRule(func(r *api.Rule) { r.Route = s }), may)
	}, false, false)
	wantRule(t, aRule(func(r *api.Rule) { r.Name, r.By, r.Route = "a", "a", "a" }), true)
	wantRule(t, aRule(func(r *api.Rule) { r.Name, r.By, r.Route = "meta", "meta", "ops" }), true)
	wantRule(t, aRule(func(r *api.Rule) { r.Name, r.By, r.Route = "meta", "meta", "meta" }), false)
	wantRule(t, aRule(func(r *api.Rule) { r.Name, r.By, r.Route = "", "", "" }), false)
}

// TestRuleMutes: P11.1: at most four names, none twice.
func TestRuleMutes(t *testing.T) {
	for _, may := range []string{"", "a", "a b", "a b c", "a b c d", "d c b a", "meta", "host ops", "q qq qqq q_", "n" + strings.Repeat("n", 15), "a a1 a_ aa"} {
		wantRule(t, aRule(func(r *api.Rule) { r.Mutes = strings.Fields(may) }), true)
	}
	for _, not := range []string{"a a", "a a b", "a b a", "b a a", "a b c a", "a b b c", "a b c b", "a b c c", "a a b c", "a a a a", "a b a b", "a b c d e", "a b c d a", "a a a a a", "a b c d e f", "A", "A b", "a B", "a b C", "a b c D", "1", "a 1 b"} {
		wantRule(t, aRule(func(r *api.Rule) { r.Mutes = strings.Fields(not) }), false)
	}
	wantRule(t, aRule(func(r *api.Rule) { r.Mutes = []string{} }), true)
	for n := range 5 {
		for i := range n {
			wantField(t, func(s string, may bool) {
				t.Helper()
				l := []string{"x1", "x2", "x3", "x4"}[:n]
				l[i] = s
				wantRule(t, aRule(func(r *api.Rule) { r.Mutes = l }), may)
			}, false, true)
		}
	}
}

// TestRuleNodes: P11.1: nodes are right, in each way in which they may be, or not.
func TestRuleNodes(t *testing.T) {
	a, b := nodesOf(`count({}[5]) > 3`)[0], nodesOf(`sum({a="x",b^=""}[60]) <= -1.5`)[0]
	and := func(left, right int) api.Node { return api.Node{Kind: api.NAnd, Left: left, Right: right} }
	not := func(left int) api.Node { return api.Node{Kind: api.NNot, Left: left} }
	with := func(change func(n *api.Node)) []api.Node {
		n := copiedNodes([]api.Node{b})
		change(&n[0])
		return n
	}
	for _, nodes := range [][]api.Node{{a}, {b}, {a, not(0)}, {a, b, and(0, 1)}, {a, a, and(0, 1), not(2)}, {a, b, b, and(1, 2), and(0, 3)}, {a, b, and(0, 1), b, and(2, 3)}, with(func(n *api.Node) { n.Window = 1000 }), with(func(n *api.Node) { n.Value = 1<<62 - 1 }), with(func(n *api.Node) { n.Select = nil })} {
		wantRule(t, aRule(func(r *api.Rule) { r.Nodes = nodes }), true)
	}
	for _, nodes := range [][]api.Node{
		nil, {}, {a, b}, {not(0)}, {and(0, 0)}, {a, not(1)}, {a, not(-1)}, {a, not(2)}, {a, b, not(0)}, {a, b, not(1)}, {a, and(0, 0)}, {a, b, and(1, 0)}, {a, b, and(0, 0)}, {a, b, and(1, 1)}, {a, b, and(0, 2)}, {a, b, and(-1, 1)}, {a, b, and(0, 1), b}, {a, a, b, and(1, 2)}, {a, b, b, and(0, 1), and(2, 3)}, {not(1), a}, {and(1, 2), a, b},
		{{Kind: 4}}, {{Kind: 255}}, {a, {Kind: 4}}, {a, b, {Kind: 4, Left: 0, Right: 1}}, {a, {Kind: api.NNot, Right: 1}}, {a, {Kind: api.NNot, Window: 1}}, {a, b, {Kind: api.NAnd, Right: 1, Value: 1}}, {a, b, {Kind: api.NOr, Right: 1, Agg: 1}}, {a, {Kind: api.NNot, Compare: 1}}, {a, {Kind: api.NNot, Select: []api.Matcher{{Name: "a"}}}}, {{}},
		with(func(n *api.Node) { n.Kind = 4 }), with(func(n *api.Node) { n.Agg = 6 }), with(func(n *api.Node) { n.Compare = 6 }), with(func(n *api.Node) { n.Window = 0 }), with(func(n *api.Node) { n.Window = -1 }), with(func(n *api.Node) { n.Window = 1001 }), with(func(n *api.Node) { n.Value = 1 << 62 }), with(func(n *api.Node) { n.Value = -1 << 62 }), with(func(n *api.Node) { n.Left = 1 }), with(func(n *api.Node) { n.Right = 1 }),
		with(func(n *api.Node) { n.Select[0].Name = "" }), with(func(n *api.Node) { n.Select[1].Name = "A" }), with(func(n *api.Node) { n.Select[1].Op = 3 }), with(func(n *api.Node) { n.Select[0].Value = "\n" }), with(func(n *api.Node) { n.Select[0].Value = strings.Repeat("v", 33) }), with(func(n *api.Node) { n.Select = slices.Repeat([]api.Matcher{{Name: "a"}}, 7) }),
	} {
		wantRule(t, aRule(func(r *api.Rule) { r.Nodes = nodes }), false)
	}
	draws := rand.New(rand.NewSource(2))
	for n := 1; n < 40; n++ {
		wantRule(t, aRule(func(r *api.Rule) { r.Nodes = someNodes(draws, n) }), n <= 31)
	}
}

// TestRuleDrawn: P11.1: rules, with one fault or several at once, by the words.
func TestRuleDrawn(t *testing.T) {
	r := rand.New(rand.NewSource(3))
	for range 1500 {
		one := someRule(r, pick(r, someNames(r, 8)...), someNames(r, 4))
		wantRule(t, one, true)
		for range 3 {
			one = spoilRule(r, one)
			wantRule(t, one, len(ruleFaults(one)) == 0)
		}
	}
}
