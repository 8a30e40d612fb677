package log

import (
	"bytes"
	"slices"
	"testing"

	"tocsin/api"
	"tocsin/files"
)

// spill overwrites a list of bytes and the spare room behind it.
func spill(b []byte) {
	b = b[:cap(b)]
	for i := range b {
		b[i] ^= 255
	}
}

// within stands bytes into room that is guarded at both ends, and tells whether the room is still as it was.
func within(b []byte) (piece []byte, same func() bool) {
	room := slices.Concat([]byte("ahead"), b, []byte("spare room behind"))
	before := slices.Clone(room)
	return room[5 : 5+len(b)], func() bool { return bytes.Equal(room, before) }
}

// TestHandedIn: P0.4: records and snapshots stay as they were, the spare room behind them too, and aren't kept.
func TestHandedIn(t *testing.T) {
	for _, p := range [][]byte{{}, []byte("a"), []byte("record"), make([]byte, 300), make([]byte, most), make([]byte, most+1)} {
		s := files.New()
		l := wantOpened(t, "new", s, "t", 0, nil)
		snapshot, sameSnapshot := within(p)
		record, sameRecord := within(p)
		asked := l.Checkpoint(snapshot)
		want(t, "the same answer", l.Append(record), asked)
		check(t, "as it was", sameSnapshot() && sameRecord())
		spill(snapshot)
		spill(record)
		if asked == api.OK {
			wantOpened(t, "not kept", s, "t", 1, p, p)
		}
	}
}

// TestAnswersAreNew: P0.4: what is told is the caller's own: to change it, and its spare room, changes neither the store's files nor another answer, nor another list of the same one.
func TestAnswersAreNew(t *testing.T) {
	records := [][]byte{[]byte("ab"), {}, []byte("cdefghij"), []byte("k")}
	d := disk{"tsnap.1": safe(framed([]byte("snapshot"))), "tlog.1": safe(framed(records...))}
	s := d.store(t)
	_, snapshot, got, e := Open(s, "t")
	ok(t, e)
	_, otherSnapshot, other, e := Open(s, "t")
	ok(t, e)
	spill(snapshot)
	check(t, "records behind a change", sameRecords(got, records))
	for i := range got {
		spill(got[i])
		for j := i + 1; j < len(got); j++ {
			check(t, "another record", bytes.Equal(got[j], records[j]))
		}
	}
	for i := range got[:cap(got)] {
		got[:cap(got)][i] = []byte("else")
	}
	check(t, "another answer", bytes.Equal(otherSnapshot, []byte("snapshot")) && sameRecords(other, records))
	wantDisk(t, "the files", s, d)
	wantOpened(t, "once more", s, "t", 1, []byte("snapshot"), records...)
}

// TestOpenStoreIsUsed: P0.4, P0.1: the store is the one that was handed over; nothing is kept between stores.
func TestOpenStoreIsUsed(t *testing.T) {
	first, second := files.New(), files.New()
	l := wantOpened(t, "first", first, "t", 0, nil)
	wantOpened(t, "second", second, "t", 0, nil)
	ok(t, l.Append([]byte("a")))
	ok(t, l.Checkpoint([]byte("s")))
	wantDisk(t, "second", second, disk{"tlog.0": {}})
	wantOpened(t, "second", second, "t", 0, nil)
	wantOpened(t, "first", first, "t", 1, []byte("s"))
}
