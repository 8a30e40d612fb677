package expr

import (
	"math/rand"
	"slices"
	"testing"
	"unsafe"

	"tocsin/api"
	"tocsin/lex"
)

// shares says whether a piece's bytes stand in the memory of the whole.
func shares(piece, whole string) bool {
	a, b := uintptr(unsafe.Pointer(unsafe.StringData(piece))), uintptr(unsafe.Pointer(unsafe.StringData(whole)))
	return piece != "" && whole != "" && a < b+uintptr(len(whole)) && b < a+uintptr(len(piece))
}

// overlap says whether two lists, with the spare room behind them, share memory.
func overlap[T any](a, b []T) bool {
	a, b = a[:cap(a)], b[:cap(b)]
	if len(a) == 0 || len(b) == 0 {
		return false
	}
	size := unsafe.Sizeof(a[0])
	x, y := uintptr(unsafe.Pointer(&a[0])), uintptr(unsafe.Pointer(&b[0]))
	return x < y+uintptr(len(b))*size && y < x+uintptr(len(a))*size
}

// spill overwrites a list and the spare room behind it.
func spill[T any](l []T, with T) {
	l = l[:cap(l)]
	for i := range l {
		l[i] = with
	}
}

// copied is nodes with Selects of their own.
func copied(nodes []api.Node) []api.Node {
	l := slices.Clone(nodes)
	for i := range l {
		l[i].Select = slices.Clone(l[i].Select)
	}
	return l
}

// spillAll overwrites nodes, and their Selects, with all the spare room.
func spillAll(nodes []api.Node) {
	for _, n := range nodes {
		spill(n.Select, api.Matcher{Name: "spilt", Op: 9, Value: "spilt"})
	}
	spill(nodes, api.Node{Kind: 9, Window: -1})
}

// TestTokensStay: P0.4: tokens that are handed in stay as they were, those around them too, and these aren't read.
func TestTokensStay(t *testing.T) {
	r := rand.New(rand.NewSource(9))
	guard := []lex.Token{{Kind: lex.TWord, Text: "and"}, {Kind: lex.TSign, Text: "("}}
	for range 500 {
		l := tokensOf(someTree(r, r.Intn(12)+1).laid(r))
		if r.Intn(3) == 0 {
			l = l[:r.Intn(len(l))]
		}
		room := slices.Concat(guard, l, guard, guard)
		for i := range room {
			room[i].At += 7
		}
		before := slices.Clone(room)
		wantFrom(t, room[len(guard):len(guard)+len(l)], 0)
		check(t, "the tokens", slices.Equal(room, before))
	}
}

// TestNodesStay: P0.4: nodes that are handed in stay as they were, with their Selects and the spare room behind them, and that isn't read.
func TestNodesStay(t *testing.T) {
	r := rand.New(rand.NewSource(10))
	guard := []api.Node{{Kind: 9, Window: 1001}, {Kind: api.NNot}}
	for range 1000 {
		nodes := someTree(r, r.Intn(12)+1).row()
		if r.Intn(2) == 0 {
			nodes = append(someWrong(r, nodes), atom(0))
		}
		for i, n := range nodes {
			room := append(slices.Clone(n.Select), api.Matcher{Name: "A", Op: 9}, api.Matcher{})
			nodes[i].Select = room[:len(n.Select)]
		}
		room := slices.Concat(guard, nodes, guard)
		before := copied(room)
		piece := room[len(guard) : len(guard)+len(nodes)]
		wantRightWords(t, piece)
		check(t, "the nodes", same(room, before))
		for _, n := range piece {
			spare := n.Select[:len(n.Select)+2]
			check(t, "behind a Select", spare[len(n.Select)] == api.Matcher{Name: "A", Op: 9} && spare[len(n.Select)+1] == api.Matcher{})
		}
	}
}

// TestToldIsNew: P0.4: nodes that are told, and each Select, with their spare room, are the caller's own: they share memory neither with one another nor with another answer.
func TestToldIsNew(t *testing.T) {
	r := rand.New(rand.NewSource(11))
	for range 300 {
		want := someTree(r, r.Intn(16)+1).row()
		l := tokensOf(Print(want))
		first, _, _ := Read(l, 0)
		second, _, _ := Read(l, 0)
		check(t, "the nodes", !overlap(first, second))
		selects := [][]api.Matcher{}
		for _, n := range append(slices.Clone(first), second...) {
			for _, other := range selects {
				check(t, "the Selects", !overlap(n.Select, other))
			}
			selects = append(selects, n.Select)
		}
		for i := range first {
			first[i].Select = append(first[i].Select, api.Matcher{Name: "more"})
			first[i].Select = first[i].Select[:len(first[i].Select)-1]
		}
		check(t, "behind the Selects", same(first, want))
		spillAll(first)
		check(t, "another answer", same(second, want))
		again, next, e := Read(l, 0)
		check(t, "once more", same(again, want) && next == len(l) && e == api.OK)
	}
	s := spell("A and (B or not F)")
	want, _ := Parse(s)
	want = copied(want)
	first, _ := Parse(s)
	second, _ := Parse(s)
	check(t, "Parse", !overlap(first, second))
	spillAll(first)
	check(t, "Parse", same(second, want))
	wantNodes(t, s, want)
}

// TestTextsAreNew: P0.4: names and values that are told are no pieces of what was handed in: they stay, whatever becomes of its memory.
func TestTextsAreNew(t *testing.T) {
	s := spell("A and (B or not F) or D")
	memory := []byte(s)
	text := unsafe.String(&memory[0], len(memory))
	want, _ := Parse(s)
	got, e := Parse(text)
	check(t, "Parse", e == api.OK && same(got, want))
	l := tokensOf(s)
	for i := range l {
		own := []byte(l[i].Text + " ")
		l[i].Text = unsafe.String(&own[0], len(l[i].Text))
	}
	read, _, e := Read(l, 0)
	check(t, "Read", e == api.OK && same(read, want))
	for _, n := range append(slices.Clone(got), read...) {
		for _, one := range n.Select {
			check(t, "pieces of the text", !shares(one.Name, text) && !shares(one.Value, text))
			for _, token := range l {
				check(t, "pieces of a token", !shares(one.Name, token.Text) && !shares(one.Value, token.Text))
			}
		}
	}
	for i := range memory {
		memory[i] = '!'
	}
	check(t, "as they were", same(got, want))
	written := Print(read)
	for _, n := range read {
		for _, one := range n.Select {
			check(t, "Print", !shares(one.Name, written) && !shares(one.Value, written))
		}
	}
}

// TestNotKept: P0.4: what was told stays, whatever becomes of what was handed in; and it is looked at anew each time.
func TestNotKept(t *testing.T) {
	l := tokens("A and B")
	nodes, next, e := Read(l, 0)
	spill(l, lex.Token{Kind: lex.TSign, Text: ")"})
	check(t, "as it was", e == api.OK && next == len(l) && brief(nodes) == "A B &0,1")
	wantNotHere(t, l, 0, api.ErrExpr)
	text, right := Print(nodes), Right(nodes)
	nodes[2].Kind = api.NOr
	check(t, "as they were", right && text == spell("A and B"))
	check(t, "now", Print(nodes) == spell("A or B") && Right(nodes))
	nodes[1].Select[0].Name = "A"
	check(t, "not right any more", Print(nodes) == "" && !Right(nodes))
}

// TestAgain: P0.1: nothing is kept from call to call, an error either.
func TestAgain(t *testing.T) {
	full := spell("not (A or B) and (A or B or C or D) and (A or B or C or D) and (A or B or C or D) and (A or B or C or D)")
	for range 3 {
		wantRefused(t, spell("A and"), api.ErrExpr)
		wantBrief(t, "A and B", "A B &0,1")
		wantRefused(t, full, api.ErrFull)
		wantBrief(t, "not C", "C !0")
		wantRefused(t, "!", api.ErrLex)
		wantRight(t, []api.Node{atom(0)}, true)
		wantRight(t, []api.Node{atom(0), atom(1)}, false)
		wantNotHere(t, nil, 0, api.ErrExpr)
		wantHere(t, tokens("; A ;"), 1, "A", 10)
	}
}

// TestParallel: P0.1: calls at one time tell what each one would alone.
func TestParallel(t *testing.T) {
	done := make(chan bool)
	for i := range 8 {
		go func() {
			r := rand.New(rand.NewSource(int64(i)))
			ok := true
			for range 100 {
				nodes := someTree(r, r.Intn(8)+1).row()
				s := Print(nodes)
				got, e := Parse(s)
				read, _, _ := Read(tokensOf(s), 0)
				ok = ok && s == wantPrint(nodes) && e == api.OK && same(got, nodes) && same(read, nodes) && Right(got)
			}
			done <- ok
		}()
	}
	for range 8 {
		check(t, "at one time", <-done)
	}
}
