package frame

import (
	"bytes"
	"slices"
	"testing"

	"tocsin/api"
)

// spill overwrites a list and the spare room behind it.
func spill(b []byte) {
	b = b[:cap(b)]
	for i := range b {
		b[i] ^= 255
	}
}

// within stands bytes into room that is guarded at both ends, and tells whether the room is still as it was.
func within(b []byte) (piece []byte, same func() bool) {
	room := slices.Concat([]byte("ahead"), b, []byte("spare room behind"))
	before := slices.Clone(room)
	return room[5 : 5+len(b)], func() bool { return bytes.Equal(room, before) }
}

// TestHandedIn: P0.4: what is handed in stays as it was, and the spare room behind it.
func TestHandedIn(t *testing.T) {
	for _, b := range [][]byte{nil, []byte("a"), wantFrame(nil), row([]byte("ab"), nil), wantFrame([]byte("abc"))[:6], make([]byte, most+1)} {
		piece, same := within(b)
		Encode(piece)
		check(t, "Encode", same())
		Next(piece)
		check(t, "Next", same())
		for p := range All(piece) {
			spill(p)
		}
		check(t, "All", same())
		Whole(piece)
		check(t, "Whole", same())
	}
}

// TestNotBeyond: P0.4, P4.2: the spare room behind the bytes is not read either: a frame that ends there is none.
func TestNotBeyond(t *testing.T) {
	f := row([]byte("ab"), []byte("c"))
	for i := range 7 {
		wantNone(t, "the rest in the spare room", f[:i])
	}
	for i := 7; i < len(f); i++ {
		wantRow(t, "the rest in the spare room", f[:i], [][]byte{[]byte("ab")}, 7)
	}
}

// TestAnswersAreNew: P0.4: answers and their spare room share nothing with what was handed in, nor with one another.
func TestAnswersAreNew(t *testing.T) {
	for _, record := range [][]byte{{}, []byte("a"), []byte("12345678"), make([]byte, 300)} {
		p, same := within(record)
		first, _ := Encode(p)
		second, _ := Encode(p)
		spill(first)
		check(t, "Encode", same() && bytes.Equal(second, wantFrame(record)))

		f, same := within(wantFrame(record))
		one, _, _ := Next(f)
		two, _, _ := Next(f)
		spill(one)
		check(t, "Next", same() && bytes.Equal(two, record))
	}
	second := []byte("kept")
	got, _ := Encode(second)
	spill(second)
	check(t, "Encode behind a change", bytes.Equal(got, wantFrame([]byte("kept"))))
}

// TestAllIsNew: P0.4: records that are told share nothing with one another, nor with those of the next time.
func TestAllIsNew(t *testing.T) {
	records := [][]byte{[]byte("ab"), {}, []byte("cdefghij"), []byte("k")}
	b, same := within(row(records...))
	all := All(b)
	for p := range all {
		spill(p)
	}
	list := slices.Collect(all)
	check(t, "gone over again behind a change", slices.EqualFunc(list, records, bytes.Equal))
	for i := range list {
		spill(list[i])
		for j := i + 1; j < len(list); j++ {
			check(t, "another record", bytes.Equal(list[j], records[j]))
		}
	}
	check(t, "the bytes", same())
}

// TestAllKeepsNone: P0.4: the bytes are not kept: to change them behind the call, or meanwhile, changes nothing that is told.
func TestAllKeepsNone(t *testing.T) {
	records := [][]byte{[]byte("ab"), {}, []byte("cd")}
	b := row(records...)
	all := All(b)
	spill(b)
	check(t, "changed behind the call", slices.EqualFunc(slices.Collect(all), records, bytes.Equal))

	b = row(records...)
	var got [][]byte
	for p := range All(b) {
		got = append(got, p)
		clear(b)
	}
	check(t, "changed meanwhile", slices.EqualFunc(got, records, bytes.Equal))
}

// TestNoSpareFrame: P0.2: beside an error all else is the zero value, whatever the bytes behind.
func TestNoSpareFrame(t *testing.T) {
	for _, b := range [][]byte{nil, {0}, {128, 0}, withSum([]byte{2, 'a'}), slices.Concat([]byte{9}, row([]byte("a")))} {
		p, used, e := Next(b)
		check(t, "Next", p == nil && used == 0 && e == api.ErrFrame)
	}
	b, e := Encode(make([]byte, most+1))
	check(t, "Encode", b == nil && e == api.ErrLong)
}

// TestAgain: P0.1: nothing is kept from call to call.
func TestAgain(t *testing.T) {
	f := wantFrame([]byte("again"))
	for range 3 {
		wantNone(t, "torn", f[:8])
		wantOne(t, "whole", f, []byte("again"), len(f))
		b, e := Encode([]byte("again"))
		check(t, "Encode", bytes.Equal(b, f) && e == api.OK)
	}
}
