package codec

import (
	"bytes"
	"slices"
	"testing"

	"tocsin/api"
)

// spill overwrites a list of bytes and the spare room behind it.
func spill(b []byte) {
	b = b[:cap(b)]
	for i := range b {
		b[i] ^= 255
	}
}

// within stands bytes into room that is guarded at both ends, and tells whether the room is still as it was.
func within(b []byte) (piece []byte, same func() bool) {
	room := slices.Concat([]byte("ahead"), b, []byte("spare room behind"))
	before := slices.Clone(room)
	return room[5 : 5+len(b)], func() bool { return bytes.Equal(room, before) }
}

// TestWrittenNotKept: P0.4: bytes that are written stay as they were, the spare room behind them too, and aren't kept.
func TestWrittenNotKept(t *testing.T) {
	for _, n := range []int{0, 1, 8, 127, 128, 5000} {
		p := bytes.Repeat([]byte{3}, n)
		want := wantForm(value{kind: kBytes, p: string(p)})
		w := New()
		piece, same := within(p)
		w.Bytes(piece)
		w.Uint(300)
		check(t, "as it was", same())
		spill(piece)
		check(t, "not kept", bytes.Equal(w.Out(), append(want, 172, 2)))
	}
}

// TestOutIsNew: P0.4: what Out tells, and its spare room, is the caller's own: to change it changes neither the writer nor another answer, and what is written later doesn't change it.
func TestOutIsNew(t *testing.T) {
	w := New()
	var want []byte
	for i := range 300 {
		w.Uint(uint64(i))
		want = append(want, wantUint(uint64(i))...)
		first, second := w.Out(), w.Out()
		spill(first)
		check(t, "another answer", bytes.Equal(second, want))
		check(t, "the writer", bytes.Equal(w.Out(), want))
		spill(second)
	}
	kept := w.Out()
	w.Text("more")
	check(t, "behind a later value", bytes.Equal(kept, want))
	spill(kept)
	check(t, "at last", bytes.Equal(w.Out(), append(want, wantForm(value{kind: kText, p: "more"})...)))
}

// TestOverIsACopy: P6.2, P0.4: the bytes stay as they were, the spare room too; to change them behind Over, or meanwhile, changes nothing that is told.
func TestOverIsACopy(t *testing.T) {
	script := []value{{kind: kUint, u: 300}, {kind: kBytes, p: "abc"}, {kind: kText, p: "def"}, {kind: kBool, b: true}, {kind: kInt, i: -9}, {kind: kLen, n: 5, most: 5}}
	for spoilt := -1; spoilt <= len(script); spoilt++ {
		piece, same := within(written(script...))
		r := Over(piece)
		for i, v := range script {
			if i == spoilt {
				check(t, "as it was", same())
				spill(piece)
			}
			if got := read(r, v.kind, v.most); got != v {
				t.Errorf("changed ahead of %d: %v, want %v", spoilt, got, v)
			}
		}
		check(t, "as it was", spoilt >= 0 && spoilt < len(script) || same())
		wantState(t, "at the end", r, api.OK, api.OK)
	}
}

// TestToldIsNew: P0.4: bytes that are told, and their spare room, are the caller's own: to change them changes nothing that is told later, nor what was told ahead.
func TestToldIsNew(t *testing.T) {
	pieces := []string{"ab", "", "c", "defghijk", "", "l"}
	w := New()
	for _, p := range pieces {
		w.Text(p)
	}
	all := w.Out()
	r := Over(all)
	var told [][]byte
	for _, p := range pieces {
		b := r.Bytes()
		check(t, "told", string(b) == p)
		told = append(told, bytes.Clone(b))
		spill(b)
	}
	wantState(t, "at the end", r, api.OK, api.OK)
	for i, p := range pieces {
		check(t, "told ahead", string(told[i]) == p)
	}
	check(t, "the bytes", bytes.Equal(all, w.Out()))

	r = Over(all)
	var list [][]byte
	for range pieces {
		list = append(list, r.Bytes())
	}
	for i := range list {
		spill(list[i])
		for j := i + 1; j < len(list); j++ {
			check(t, "another list", string(list[j]) == pieces[j])
		}
	}
}

// TestTextsStay: P0.4: a text that was told stays, whatever becomes of the reader and of the bytes.
func TestTextsStay(t *testing.T) {
	b := []byte{2, 'a', 'b', 2, 'c', 'd'}
	r := Over(b)
	first := r.Text()
	spill(b)
	spill(r.Bytes())
	r.Uint()
	check(t, "the first one", first == "ab")
}
