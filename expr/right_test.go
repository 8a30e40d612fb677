package expr

import (
	"math"
	"math/rand"
	"slices"
	"strings"
	"testing"

	"tocsin/api"
)

// both, notOf: a node of the nodes of these numbers.
func both(kind uint8, left, right int) api.Node {
	return api.Node{Kind: kind, Left: left, Right: right}
}

func notOf(left int) api.Node { return api.Node{Kind: api.NNot, Left: left} }

// atom is the comparison of that number.
func atom(i int) api.Node { return atomNodes()[i] }

// wantRight fails, unless Right says so, and Print tells a text just then.
func wantRight(t *testing.T, nodes []api.Node, want bool) {
	t.Helper()
	if got := Right(nodes); got != want || (Print(nodes) != "") != want {
		t.Errorf("Right of %s: %v, Print %q", short(brief(nodes)), got, short(Print(nodes)))
	}
}

// wantRightWords holds Right and Print of nodes against the words.
func wantRightWords(t *testing.T, nodes []api.Node) {
	t.Helper()
	wantRight(t, nodes, wantTree(nodes) != nil)
	if got, want := Print(nodes), wantPrint(nodes); got != want {
		t.Errorf("Print of %s: %q, want %q", short(brief(nodes)), short(got), short(want))
	}
}

// TestRight: P10.3: rows that some condition has.
func TestRight(t *testing.T) {
	a, b, c, d := atom(0), atom(1), atom(2), atom(3)
	for _, nodes := range [][]api.Node{
		{a}, {a, notOf(0)}, {a, notOf(0), notOf(1)}, {a, b, both(api.NAnd, 0, 1)}, {a, b, both(api.NOr, 0, 1)}, {a, a, both(api.NOr, 0, 1)},
		{a, b, c, both(api.NAnd, 1, 2), both(api.NAnd, 0, 3)}, {a, b, both(api.NAnd, 0, 1), c, both(api.NAnd, 2, 3)}, {a, b, c, both(api.NOr, 1, 2), both(api.NOr, 0, 3)}, {a, b, c, both(api.NOr, 1, 2), both(api.NAnd, 0, 3)}, {a, b, both(api.NOr, 0, 1), c, both(api.NAnd, 2, 3)},
		{a, notOf(0), b, notOf(2), both(api.NAnd, 1, 3)}, {a, b, both(api.NAnd, 0, 1), notOf(2)}, {a, b, notOf(1), both(api.NOr, 0, 2)}, {a, b, both(api.NAnd, 0, 1), c, d, both(api.NAnd, 3, 4), both(api.NAnd, 2, 5)}, {a, b, c, d, both(api.NAnd, 2, 3), both(api.NAnd, 1, 4), both(api.NAnd, 0, 5)},
	} {
		wantRight(t, nodes, true)
		wantRightWords(t, nodes)
	}
	for i := range atoms {
		wantRight(t, []api.Node{atom(i)}, true)
	}
}

// TestNotRight: P10.3: numbers that point where they may not, nodes that two others have, or nobody, kinds that are none.
func TestNotRight(t *testing.T) {
	a, b, c, d := atom(0), atom(1), atom(2), atom(3)
	for _, nodes := range [][]api.Node{
		nil, {}, {a, b}, {a, a}, {a, b, c}, {notOf(0)}, {notOf(-1)}, {notOf(1)}, {both(api.NAnd, 0, 0)}, {both(api.NAnd, -1, -1)}, {both(api.NOr, 0, 1)}, {both(api.NAnd, -2, -1), a, b},
		{a, notOf(1)}, {a, notOf(-1)}, {a, notOf(2)}, {a, notOf(1 << 62)}, {a, notOf(-1 << 62)}, {a, notOf(math.MaxInt)}, {a, notOf(math.MinInt)}, {notOf(1), a}, {a, notOf(0), notOf(0)}, {a, b, notOf(0)}, {a, b, notOf(1)}, {a, notOf(0), b}, {a, notOf(0), notOf(2)}, {a, notOf(2), notOf(1)}, {a, both(api.NNot, 0, 1)}, {a, both(api.NNot, 0, -1)}, {a, both(api.NNot, 0, 0), b},
		{a, both(api.NAnd, 0, 0)}, {a, both(api.NAnd, 0, 1)}, {a, both(api.NAnd, -1, 0)}, {a, both(api.NOr, 0, -1)}, {a, b, both(api.NAnd, 1, 0)}, {a, b, both(api.NAnd, 0, 0)}, {a, b, both(api.NAnd, 1, 1)}, {a, b, both(api.NAnd, 0, 2)}, {a, b, both(api.NAnd, 2, 1)}, {a, b, both(api.NAnd, 2, 2)}, {a, b, both(api.NAnd, -1, 1)}, {a, b, both(api.NAnd, 0, -1)}, {a, b, both(api.NAnd, 0, 3)}, {a, b, both(api.NAnd, 3, 1)}, {a, b, both(api.NAnd, 0, 1<<62)}, {a, b, both(api.NAnd, math.MinInt, 1)},
		{a, both(api.NAnd, 0, 2), b}, {both(api.NAnd, 1, 2), a, b}, {a, b, both(api.NAnd, 0, 1), c}, {c, a, b, both(api.NAnd, 1, 2)}, {a, b, c, both(api.NAnd, 0, 1)}, {a, b, c, both(api.NAnd, 0, 2)}, {a, b, c, both(api.NAnd, 0, 1), both(api.NAnd, 2, 3)}, {a, b, c, both(api.NAnd, 0, 1), both(api.NAnd, 3, 2)}, {a, b, c, both(api.NAnd, 1, 2), both(api.NAnd, 3, 0)}, {a, b, c, both(api.NAnd, 0, 2), both(api.NAnd, 1, 3)},
		{a, b, both(api.NAnd, 0, 1), c, both(api.NAnd, 3, 2)}, {a, b, both(api.NAnd, 0, 1), c, both(api.NAnd, 0, 3)}, {a, b, both(api.NAnd, 0, 1), c, both(api.NAnd, 1, 3)}, {a, b, both(api.NAnd, 0, 1), both(api.NAnd, 2, 2)}, {a, b, both(api.NAnd, 0, 1), both(api.NAnd, 0, 2)}, {a, b, both(api.NAnd, 0, 1), both(api.NAnd, 1, 2)}, {a, b, both(api.NAnd, 0, 1), notOf(1)}, {a, b, both(api.NAnd, 0, 1), notOf(0)}, {a, notOf(0), b, both(api.NAnd, 0, 2)}, {a, b, c, d, both(api.NAnd, 0, 1), both(api.NAnd, 2, 3), both(api.NAnd, 4, 5)},
	} {
		wantRight(t, nodes, false)
		wantRightWords(t, nodes)
	}
	for kind := 4; kind < 256; kind++ {
		wantRight(t, []api.Node{{Kind: uint8(kind)}}, false)
		wrong := a
		wrong.Kind = uint8(kind)
		wantRight(t, []api.Node{wrong}, false)
		wantRight(t, []api.Node{a, {Kind: uint8(kind)}}, false)
		wantRight(t, []api.Node{a, b, both(uint8(kind), 0, 1)}, false)
		wantRight(t, []api.Node{a, wrong, both(api.NAnd, 0, 1)}, false)
	}
}

// TestRightFields: P10.3: a comparison's fields; and those that a kind doesn't use: nothing is in them.
func TestRightFields(t *testing.T) {
	with := func(change func(n *api.Node)) api.Node {
		n := atom(1)
		change(&n)
		return n
	}
	want := func(n api.Node, ok bool) {
		t.Helper()
		for _, nodes := range [][]api.Node{{n}, {n, notOf(0)}, {atom(0), n, both(api.NAnd, 0, 1)}, {n, atom(0), both(api.NOr, 0, 1)}} {
			wantRight(t, nodes, ok)
			wantRightWords(t, nodes)
		}
	}
	for i := range 256 {
		want(with(func(n *api.Node) { n.Agg = uint8(i) }), i <= 5)
		want(with(func(n *api.Node) { n.Compare = uint8(i) }), i <= 5)
		want(with(func(n *api.Node) { n.Select[0].Op = uint8(i) }), i <= 2)
	}
	for _, i := range []int{math.MinInt, -1 << 32, -1000, -1, 0, 1, 2, 999, 1000, 1001, 1 << 16, 1<<32 + 1, 1 << 62, math.MaxInt} {
		want(with(func(n *api.Node) { n.Window = i }), i >= 1 && i <= 1000)
		want(with(func(n *api.Node) { n.Left = i }), i == 0)
		want(with(func(n *api.Node) { n.Right = i }), i == 0)
	}
	for _, x := range []int64{math.MinInt64, -end - 2, -end - 1, -end, -end + 1, -1, 0, 1, end - 1, end, end + 1, math.MaxInt64} {
		want(with(func(n *api.Node) { n.Value = x }), x >= -end && x <= end)
	}
	for n := range 10 {
		want(with(func(x *api.Node) { x.Select = slices.Repeat([]api.Matcher{{Name: "a", Value: "x"}}, n) }), n <= 6)
	}
	for _, name := range []string{"", "a", "A", "1", "_", "a_", "a-", "and", strings.Repeat("n", 16), strings.Repeat("n", 17), "é", "a ", "a\x00"} {
		want(with(func(n *api.Node) { n.Select[1].Name = name }), nameForm.MatchString(name))
	}
	for _, value := range []string{"", " ", `"`, `\`, "~", "\x1f", "\x7f", "\xff", "\n", "é", strings.Repeat("v", 32), strings.Repeat("v", 33)} {
		want(with(func(n *api.Node) { n.Select[0].Value = value }), valueForm.MatchString(value))
	}
	for _, change := range []func(n *api.Node){func(n *api.Node) { n.Agg = 1 }, func(n *api.Node) { n.Compare = 1 }, func(n *api.Node) { n.Window = 1 }, func(n *api.Node) { n.Window = -1 }, func(n *api.Node) { n.Value = 1 }, func(n *api.Node) { n.Value = -1 }, func(n *api.Node) { n.Select = []api.Matcher{{}} }, func(n *api.Node) { n.Select = []api.Matcher{{Name: "a", Value: "x"}} }} {
		for _, n := range []api.Node{notOf(1), both(api.NAnd, 0, 1), both(api.NOr, 0, 1)} {
			nodes := []api.Node{atom(0), atom(1), n}
			if n.Kind == api.NNot {
				nodes = []api.Node{atom(0), notOf(0), n}
			}
			wantRight(t, nodes, true)
			change(&nodes[2])
			wantRight(t, nodes, false)
			wantRightWords(t, nodes)
		}
	}
	empty := []api.Node{atom(0), {Kind: api.NNot, Select: []api.Matcher{}}}
	empty[0].Select = []api.Matcher{}
	wantRight(t, empty, true)
}

// TestRightCount: P10.3: 1 to 31 nodes.
func TestRightCount(t *testing.T) {
	r := rand.New(rand.NewSource(4))
	for n := 1; n < 70; n++ {
		for range 5 {
			nodes := someTree(r, n).row()
			wantRight(t, nodes, n <= 31)
			wantRightWords(t, nodes)
		}
		nots := []api.Node{atom(0)}
		for i := range n {
			nots = append(nots, notOf(i))
		}
		wantRight(t, nots, n <= 30)
	}
	wantRight(t, slices.Repeat([]api.Node{atom(0)}, 1<<16), false)
	wantRight(t, make([]api.Node, 31), false)
	doubled := []api.Node{atom(0)}
	for i := range 30 {
		doubled = append(doubled, both(api.NAnd, i, i))
	}
	wantRight(t, doubled, false)
}

// TestShortNodes: P10.3: every short row of nodes, of all kinds, with all numbers near.
func TestShortNodes(t *testing.T) {
	every := func(kinds uint8, from, to int) []api.Node {
		var l []api.Node
		for kind := range kinds {
			for left := from; left <= to; left++ {
				for right := from; right <= to; right++ {
					n := both(kind, left, right)
					if kind == api.NCompare {
						n.Window = 1
					}
					l = append(l, n)
				}
			}
		}
		return l
	}
	var more func(row, l []api.Node, n int)
	more = func(row, l []api.Node, n int) {
		if want := wantTree(row) != nil; Right(row) != want || want && Print(row) == "" {
			t.Errorf("Right of %s: %v", brief(row), !want)
		}
		for i := 0; i < len(l) && len(row) < n; i++ {
			more(append(row, l[i]), l, n)
		}
	}
	more(nil, every(5, -1, 2), 2)
	more([]api.Node{{Window: 1}}, every(5, -1, 3), 3)
	few := []api.Node{{Window: 1}}
	for left := range 4 {
		few = append(few, notOf(left))
		for right := range 4 {
			few = append(few, both(api.NAnd, left, right))
		}
	}
	more([]api.Node{{Window: 1}}, few, 4)
	more([]api.Node{{Window: 1}, {Window: 1}}, few, 5)
}

// TestRightDrawn: P10.3: drawn nodes, and what is wrong about them, by the words.
func TestRightDrawn(t *testing.T) {
	r := rand.New(rand.NewSource(5))
	for range 6000 {
		nodes := someTree(r, r.Intn(10)+1).row()
		wantRight(t, nodes, true)
		for range 3 {
			if len(nodes) > 0 {
				nodes = someWrong(r, nodes)
				wantRightWords(t, nodes)
			}
		}
	}
}
