package log

import (
	"bytes"
	"strconv"
	"testing"

	"tocsin/api"
	"tocsin/files"
)

// TestExamples: the chapter's examples (P5.1 to P5.4).
func TestExamples(t *testing.T) {
	s := files.New()
	l := wantOpened(t, "new", s, "t", 0, nil)
	want(t, "Append", l.Append([]byte{1}), api.OK)
	want(t, "Append", l.Append([]byte{2}), api.OK)
	want(t, "Sync", l.Sync(), api.OK)
	want(t, "Append", l.Append([]byte{3}), api.OK)
	wantLog(t, "three", l, 0, 3)
	s.Crash([]int{2})
	l = wantOpened(t, "behind a crash", s, "t", 0, nil, []byte{1}, []byte{2})
	want(t, "Checkpoint", l.Checkpoint([]byte{9, 9}), api.OK)
	want(t, "Append", l.Append([]byte{4}), api.OK)
	wantNames(t, s, "tlog.1", "tsnap.1")
	wantLog(t, "a checkpoint", l, 1, 1)
	wantOpened(t, "another", s, "u", 0, nil)
	wantOpened(t, "again", s, "t", 1, []byte{9, 9}, []byte{4})
	wantNames(t, s, "tlog.1", "tsnap.1", "ulog.0")
}

// TestNotMade: P0.1, P5.2 to P5.4: a nil log, and one that nobody made; ErrNil is ahead of all else.
func TestNotMade(t *testing.T) {
	long := make([]byte, most+1)
	for _, l := range []*Log{nil, {}, new(Log)} {
		for range 2 { // the second time: behind all calls once
			for _, p := range [][]byte{nil, {1}, long} {
				want(t, "Append", l.Append(p), api.ErrNil)
				want(t, "Sync", l.Sync(), api.ErrNil)
				want(t, "Checkpoint", l.Checkpoint(p), api.ErrNil)
			}
			wantLog(t, "not made", l, 0, 0)
		}
	}
}

// TestAppend: P5.2: the frame stands at the file's end, not synced; Sync syncs that file alone; each is one act.
func TestAppend(t *testing.T) {
	s := files.New()
	ok(t, s.Append("x", []byte{5}))
	l := wantOpened(t, "new", s, "t", 0, nil)
	acts := s.Acts()
	records := [][]byte{}
	for i, p := range [][]byte{[]byte("a"), nil, {}, []byte("bcd"), make([]byte, 200)} {
		want(t, "Append", l.Append(p), api.OK)
		records = append(records, p)
		wantLog(t, "Append", l, 0, i+1)
		wantDisk(t, "Append", s, disk{"x": loose([]byte{5}), "tlog.0": loose(framed(records...))})
	}
	check(t, "an act each", s.Acts() == acts+5)
	for range 2 {
		want(t, "Sync", l.Sync(), api.OK)
		wantDisk(t, "Sync", s, disk{"x": loose([]byte{5}), "tlog.0": safe(framed(records...))})
	}
	check(t, "an act each", s.Acts() == acts+7)
	want(t, "Append", l.Append([]byte("e")), api.OK)
	whole := framed(append(records, []byte("e"))...)
	wantDisk(t, "Append", s, disk{"x": loose([]byte{5}), "tlog.0": {string(whole), len(whole) - 6}})
	wantLog(t, "all", l, 0, 6)
	wantOpened(t, "again", s, "t", 0, nil, append(records, []byte("e"))...)
}

// TestAppendLengths: P5.2: records of no bytes, of MaxFrame, of one more; what is refused changes nothing.
func TestAppendLengths(t *testing.T) {
	s := files.New()
	l := wantOpened(t, "new", s, "t", 0, nil)
	longest := bytes.Repeat([]byte{3}, most)
	want(t, "MaxFrame", l.Append(longest), api.OK)
	before, acts := diskOf(t, s), s.Acts()
	for _, n := range []int{most + 1, most + 2, 1 << 17, 1<<20 + 1} {
		want(t, "more", l.Append(make([]byte, n)), api.ErrLong)
	}
	wantDisk(t, "more", s, before)
	check(t, "no acts", s.Acts() == acts)
	wantLog(t, "more", l, 0, 1)
	want(t, "none", l.Append(nil), api.OK)
	wantOpened(t, "again", s, "t", 0, nil, longest, nil)
}

// TestAppendStoreErrors: P5.2: those of the store are the answer; Encode's is ahead of them; Count tells what was done alone.
func TestAppendStoreErrors(t *testing.T) {
	s := files.New()
	l := wantOpened(t, "new", s, "t", 0, nil)
	longest := make([]byte, most)
	for range 15 {
		want(t, "Append", l.Append(longest), api.OK)
	}
	before := diskOf(t, s)
	want(t, "beyond the file", l.Append(longest), api.ErrLong)
	wantLog(t, "beyond the file", l, 0, 15)
	wantDisk(t, "beyond the file", s, before)
	want(t, "within", l.Append(longest[:most-15*7-7]), api.OK)
	if n, e := s.Size("tlog.0"); n != 1<<20 || e != api.OK {
		t.Error(n, e)
	}
	want(t, "none fits", l.Append(nil), api.ErrLong)
	wantLog(t, "none fits", l, 0, 16)
	s.Power(0)
	want(t, "dead", l.Append(nil), api.ErrPower)
	want(t, "dead, too long", l.Append(make([]byte, most+1)), api.ErrLong)
	want(t, "dead", l.Sync(), api.ErrPower)
	wantLog(t, "dead", l, 0, 16)
	s.Power(-1)
	want(t, "alive again", l.Sync(), api.OK)
}

// TestFileGone: P5.2: the log's file was removed by another: Sync tells so, Append makes it again, as the store does.
func TestFileGone(t *testing.T) {
	s := files.New()
	l := wantOpened(t, "new", s, "t", 0, nil)
	ok(t, s.Remove("tlog.0"))
	want(t, "Sync", l.Sync(), api.ErrFile)
	for i := range 64 {
		ok(t, s.Append("f"+strconv.Itoa(i), nil))
	}
	want(t, "full", l.Append([]byte("a")), api.ErrFull)
	wantLog(t, "full", l, 0, 0)
	ok(t, s.Remove("f0"))
	want(t, "Append", l.Append([]byte("a")), api.OK)
	want(t, "Sync", l.Sync(), api.OK)
	wantLog(t, "made again", l, 0, 1)
	wantOpened(t, "made again", s, "t", 0, nil, []byte("a"))
}

// TestAppendPower: P5.2, P5.4: the power goes ahead of an act, or behind it; what survives of the bytes is seen by the next Open.
func TestAppendPower(t *testing.T) {
	for power := range 5 {
		for keep := range 20 {
			s := files.New()
			l := wantOpened(t, "new", s, "t", 0, nil)
			ok(t, l.Append([]byte("first")))
			ok(t, l.Sync())
			s.Power(power)
			errs := []api.Errno{l.Append([]byte("a")), l.Append([]byte("bc")), l.Sync(), l.Append([]byte("d"))}
			for i, e := range errs {
				if i < power {
					want(t, "done", e, api.OK)
				} else {
					want(t, "not done", e, api.ErrPower)
				}
			}
			wantLog(t, "power", l, 0, []int{1, 2, 3, 3, 4}[power])
			s.Crash([]int{keep})
			records := [][]byte{[]byte("first")}
			left := keep
			for i, p := range []string{"a", "bc", "d"}[:min(3, l.Count()-1)] {
				if power >= 3 && i < 2 { // synced
					records = append(records, []byte(p))
				} else if left -= len(framed([]byte(p))); left >= 0 {
					records = append(records, []byte(p))
				}
			}
			wantOpened(t, "power "+strconv.Itoa(power)+", keep "+strconv.Itoa(keep), s, "t", 0, nil, records...)
		}
	}
}

// TestNumberAndCount: P5.4: over records that Open told, those appended since, and checkpoints; what is refused counts nothing.
func TestNumberAndCount(t *testing.T) {
	s := files.New()
	l := wantOpened(t, "new", s, "t", 0, nil)
	for n := range 12 {
		wantLog(t, "begins", l, n, 0)
		for i := range n {
			want(t, "Append", l.Append([]byte{byte(i)}), api.OK)
			want(t, "too long", l.Append(make([]byte, most+1)), api.ErrLong)
			want(t, "Sync", l.Sync(), api.OK)
			wantLog(t, "appended", l, n, i+1)
		}
		_, _, records, e := Open(s, "t")
		check(t, "as many records", e == api.OK && len(records) == n)
		again, _, _, _ := Open(s, "t")
		wantLog(t, "opened", again, n, n)
		want(t, "Append", again.Append(nil), api.OK)
		wantLog(t, "opened, appended", again, n, n+1)
		wantLog(t, "the other one", l, n, n)
		want(t, "too long", again.Checkpoint(make([]byte, most+1)), api.ErrLong)
		wantLog(t, "refused", again, n, n+1)
		want(t, "Checkpoint", again.Checkpoint(nil), api.OK)
		wantLog(t, "a checkpoint", again, n+1, 0)
		l = again
	}
}
