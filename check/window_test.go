package check

import (
	"math"
	"math/rand"
	"slices"
	"testing"

	"tocsin/api"
)

// compared are comparisons with these windows.
func compared(windows ...int) []api.Node {
	var nodes []api.Node
	for _, n := range windows {
		nodes = append(nodes, api.Node{Kind: api.NCompare, Window: n})
	}
	return nodes
}

// TestWindow: P11.2: the greatest, wherever it stands; of right nodes.
func TestWindow(t *testing.T) {
	for text, want := range map[string]int{
		`count({}[5]) > 3`: 5, `count({}[1]) > 3`: 1, `count({}[1000]) > 3`: 1000, `not count({}[7]) > 900`: 7,
		`count({}[5]) > 3 and sum({}[60]) < 1`: 60, `count({}[60]) > 3 or sum({}[5]) < 1`: 60, `count({}[5]) > 3 and sum({}[5]) < 1`: 5,
		`max({}[1]) > 0 and (max({}[999]) > 0 or not max({}[998]) > 0)`: 999, `not (min({a="x"}[20]) > 0 or last({}[30]) > 0) and mean({}[10]) > 0`: 30,
	} {
		wantTop(t, nodesOf(text), want)
	}
}

// TestWindowOrder: P11.2: comparisons in each order, any number of them.
func TestWindowOrder(t *testing.T) {
	for _, l := range [][]int{{1, 2, 3}, {1, 3, 2}, {2, 1, 3}, {2, 3, 1}, {3, 1, 2}, {3, 2, 1}, {3, 3, 3}, {3, 3}, {3}, {-1, 3}, {3, -1}, {0, 3, 0}, {-5, 0, 3, -1}} {
		wantTop(t, compared(l...), 3)
	}
	for n := 1; n < 50; n++ {
		for i := range n {
			l := make([]int, n)
			l[i] = 9
			wantTop(t, compared(l...), 9)
		}
	}
}

// TestWindowNone: P11.2: of no nodes, of no comparisons, and of none with a window above 0.
func TestWindowNone(t *testing.T) {
	wantTop(t, nil, 0)
	wantTop(t, []api.Node{}, 0)
	wantTop(t, make([]api.Node, 5), 0)
	for _, l := range [][]int{{0}, {-1}, {-1000}, {math.MinInt}, {0, -1}, {-1, 0}, {-2, -1, -3}, {math.MinInt, math.MinInt + 1}} {
		wantTop(t, compared(l...), 0)
	}
}

// TestWindowAny: P11.2: of nodes that are not right: any windows, any others of a comparison's fields; and what is no comparison has none, whatever stands in its field.
func TestWindowAny(t *testing.T) {
	for _, n := range numbers {
		wantTop(t, compared(n), max(n, 0))
		wantTop(t, compared(5, n), max(n, 5))
		wantTop(t, compared(n, 5), max(n, 5))
	}
	for kind := 1; kind < 256; kind++ {
		for _, n := range []int{-1, 0, 1, 3, 1000, 1001, math.MaxInt} {
			other := api.Node{Kind: uint8(kind), Window: n, Left: 0, Right: 1}
			wantTop(t, []api.Node{other}, 0)
			wantTop(t, append(compared(2), other), 2)
			wantTop(t, append([]api.Node{other}, compared(2)...), 2)
			wantTop(t, append(append(compared(2), other), compared(1)...), 2)
		}
	}
	odd := api.Node{Agg: 9, Select: []api.Matcher{{Name: "A", Op: 9}}, Window: 12, Compare: 9, Value: math.MinInt64, Left: -1, Right: 99}
	wantTop(t, []api.Node{odd}, 12)
	wantTop(t, append(compared(3, 4), odd), 12)
}

// TestWindowDrawn: P11.2: drawn nodes, right ones and others, by the words.
func TestWindowDrawn(t *testing.T) {
	r := rand.New(rand.NewSource(6))
	for range 3000 {
		nodes := someNodes(r, r.Intn(31)+1)
		wantTop(t, nodes, wantWindow(nodes))
		for range 3 {
			nodes = spoilNodes(r, nodes)
			wantTop(t, nodes, wantWindow(nodes))
		}
		r.Shuffle(len(nodes), func(i, j int) { nodes[i], nodes[j] = nodes[j], nodes[i] })
		wantTop(t, nodes, wantWindow(nodes))
		slices.Reverse(nodes)
		wantTop(t, nodes, wantWindow(nodes))
	}
}
