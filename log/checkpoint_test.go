package log

import (
	"bytes"
	"strconv"
	"testing"

	"tocsin/api"
	"tocsin/files"
)

// TestCheckpoint: P5.3: the files behind it, at the numbers 0 and on; each with records, synced or not, and none.
func TestCheckpoint(t *testing.T) {
	s := files.New()
	l := wantOpened(t, "new", s, "t", 0, nil)
	for n := 1; n < 13; n++ {
		for range n % 3 {
			ok(t, l.Append([]byte("r")))
		}
		if n%2 == 0 {
			ok(t, l.Sync())
		}
		snapshot := bytes.Repeat([]byte{byte(n)}, n*30)
		acts := s.Acts()
		want(t, "Checkpoint", l.Checkpoint(snapshot), api.OK)
		wantLog(t, "Checkpoint", l, n, 0)
		wantDisk(t, "Checkpoint", s, disk{"tlog." + strconv.Itoa(n): {}, "tsnap." + strconv.Itoa(n): safe(framed(snapshot))})
		check(t, "acts", s.Acts() == acts+min(5+n-1, 6))
		l = wantOpened(t, "again", s, "t", n, snapshot)
	}
}

// TestCheckpointLengths: P5.3: of no bytes, of MaxFrame, of one more: then all is as it was.
func TestCheckpointLengths(t *testing.T) {
	s := files.New()
	l := wantOpened(t, "new", s, "t", 0, nil)
	longest := bytes.Repeat([]byte{5}, most)
	want(t, "none", l.Checkpoint(nil), api.OK)
	l = wantOpened(t, "none", s, "t", 1, nil)
	want(t, "none", l.Checkpoint([]byte{}), api.OK)
	want(t, "longest", l.Checkpoint(longest), api.OK)
	l = wantOpened(t, "longest", s, "t", 3, longest)
	ok(t, l.Append([]byte("r")))
	before, acts := diskOf(t, s), s.Acts()
	for _, n := range []int{most + 1, 1 << 17, 1<<20 + 1} {
		want(t, "more", l.Checkpoint(make([]byte, n)), api.ErrLong)
	}
	wantDisk(t, "more", s, before)
	wantLog(t, "more", l, 3, 1)
	check(t, "no acts", s.Acts() == acts)
	want(t, "not broken", l.Append(nil), api.OK)
	s.Power(0)
	want(t, "dead, too long", l.Checkpoint(make([]byte, most+1)), api.ErrLong)
	want(t, "dead", l.Checkpoint(nil), api.ErrPower)
}

// TestLastNumber: P5.3: at 999,999,998 there is no checkpoint any more, but the log isn't broken; ErrLong is ahead of that.
func TestLastNumber(t *testing.T) {
	s := disk{"tsnap.999999996": safe(framed([]byte("s")))}.store(t)
	l := wantOpened(t, "near", s, "t", 999_999_996, []byte("s"))
	want(t, "to ..997", l.Checkpoint([]byte("7")), api.OK)
	want(t, "to ..998", l.Checkpoint([]byte("8")), api.OK)
	wantLog(t, "the last one", l, 999_999_998, 0)
	want(t, "Append", l.Append([]byte("r")), api.OK)
	ok(t, s.Append("tnew", []byte{1}))
	before, acts := diskOf(t, s), s.Acts()
	want(t, "no more", l.Checkpoint([]byte("9")), api.ErrLog)
	want(t, "no more, too long", l.Checkpoint(make([]byte, most+1)), api.ErrLong)
	s.Power(0)
	want(t, "no more, dead", l.Checkpoint([]byte("9")), api.ErrLog)
	wantDisk(t, "no more", s, before)
	check(t, "no acts", s.Acts() == acts)
	wantLog(t, "no more", l, 999_999_998, 1)
	want(t, "Append", l.Append([]byte("q")), api.OK)
	want(t, "Sync", l.Sync(), api.OK)
	wantOpened(t, "again", s, "t", 999_999_998, []byte("8"), []byte("r"), []byte("q"))
}

// TestCheckpointOverNew: P5.3: a `new` that is there is removed first: nothing of it comes into the snapshot.
func TestCheckpointOverNew(t *testing.T) {
	for _, c := range []content{{}, safe([]byte("left")), loose(framed([]byte("left")))} {
		s := files.New()
		l := wantOpened(t, "new", s, "t", 0, nil)
		for name, c := range (disk{"tnew": c, "new": c, "ttnew": c}) {
			ok(t, s.Append(name, []byte(c.bytes)))
		}
		acts := s.Acts()
		want(t, "Checkpoint", l.Checkpoint([]byte("s")), api.OK)
		check(t, "acts", s.Acts() == acts+6)
		wantDisk(t, "Checkpoint", s, disk{"tlog.1": {}, "tsnap.1": safe(framed([]byte("s"))), "new": loose([]byte(c.bytes)), "ttnew": loose([]byte(c.bytes))})
	}
}

// wantBroken fails, if the log does anything any more.
func wantBroken(t *testing.T, what string, l *Log, s *files.Store) {
	t.Helper()
	before, acts := diskOf(t, s), s.Acts()
	for range 2 {
		for _, p := range [][]byte{nil, {1}, make([]byte, most+1)} {
			want(t, what+": Append", l.Append(p), api.ErrLog)
			want(t, what+": Sync", l.Sync(), api.ErrLog)
			want(t, what+": Checkpoint", l.Checkpoint(p), api.ErrLog)
		}
		s.Power(0) // ErrLog is ahead of the store's errors
	}
	check(t, what+": no acts", s.Acts() == acts)
	wantDisk(t, what, s, before)
}

// wantUnbroken fails, if the log doesn't go on as if nothing had been.
func wantUnbroken(t *testing.T, what string, l *Log, s *files.Store) {
	t.Helper()
	n, count := l.Number(), l.Count()
	want(t, what+": Append", l.Append([]byte("goes on")), api.OK)
	want(t, what+": Sync", l.Sync(), api.OK)
	wantLog(t, what, l, n, count+1)
	want(t, what+": Checkpoint", l.Checkpoint([]byte("next")), api.OK)
	wantOpened(t, what, s, "t", n+1, []byte("next"))
}

// TestCheckpointPower: P5.3: the power goes behind each of its acts: what is done stays, the log is broken just behind the renaming; Number and Count are as they were.
func TestCheckpointPower(t *testing.T) {
	for _, number := range []int{0, 1, 9, 999_999_997} {
		for _, d := range []disk{{}, {"tnew": loose([]byte("left"))}} {
			start := disk{"tlog." + strconv.Itoa(number): safe(framed([]byte("a"), []byte("b")))}
			if number > 0 {
				start["tsnap."+strconv.Itoa(number)] = safe(framed([]byte("old")))
			}
			for power := 0; ; power++ {
				s := start.store(t)
				l, _, _, e := Open(s, "t")
				ok(t, e)
				ok(t, l.Append([]byte("c")))
				for name, c := range d {
					ok(t, s.Append(name, []byte(c.bytes)))
				}
				before := diskOf(t, s)
				acts, renamed := before.checkpointed("t", number, []byte("snapshot"))
				s.Power(power)
				e = l.Checkpoint([]byte("snapshot"))
				what := "number " + strconv.Itoa(number) + ", power " + strconv.Itoa(power)
				wantDisk(t, what, s, before.after(acts[:min(power, len(acts))]...))
				if power >= len(acts) {
					want(t, what, e, api.OK)
					wantLog(t, what, l, number+1, 0)
					if power > len(acts) {
						break
					}
					continue
				}
				want(t, what, e, api.ErrPower)
				wantLog(t, what, l, number, 3)
				if power < renamed {
					wantUnbroken(t, what, l, s)
				} else {
					wantBroken(t, what, l, s)
					wantLog(t, what, l, number, 3)
					wantOpened(t, what, s, "t", number+1, []byte("snapshot"))
				}
			}
		}
	}
}

// TestCheckpointFull: P5.3: no room for `new`: the log isn't broken; room for it, but for no other: it is.
func TestCheckpointFull(t *testing.T) {
	for others := 61; others < 64; others++ {
		s := files.New()
		l := wantOpened(t, "new", s, "t", 0, nil)
		ok(t, l.Append([]byte("r")))
		for i := range others {
			ok(t, s.Append("f"+strconv.Itoa(i), nil))
		}
		before := diskOf(t, s)
		e := l.Checkpoint([]byte("s"))
		switch others {
		case 61:
			want(t, "room for both", e, api.OK)
			wantLog(t, "room for both", l, 1, 0)
		case 62:
			want(t, "room for new", e, api.ErrFull)
			wantLog(t, "room for new", l, 0, 1)
			wantBroken(t, "room for new", l, s)
			ok(t, s.Remove("f0"))
			wantBroken(t, "room again", l, s)
			wantOpened(t, "room again", s, "t", 1, []byte("s"))
		case 63:
			want(t, "no room", e, api.ErrFull)
			wantDisk(t, "no room", s, before)
			ok(t, s.Remove("f0"))
			ok(t, s.Remove("f1"))
			wantUnbroken(t, "no room", l, s)
		}
	}
}

// TestCheckpointFilesGone: P5.3: files that another removed: the step that misses one fails, and all are steps behind the renaming.
func TestCheckpointFilesGone(t *testing.T) {
	for _, name := range []string{"tlog.1", "tsnap.1"} {
		s := disk{"tlog.1": {}, "tsnap.1": safe(framed(nil))}.store(t)
		l := wantOpened(t, name, s, "t", 1, nil)
		ok(t, s.Remove(name))
		want(t, name, l.Checkpoint([]byte("s")), api.ErrFile)
		wantLog(t, name, l, 1, 0)
		wantBroken(t, name, l, s)
		wantOpened(t, name, s, "t", 2, []byte("s"))
	}
}

// TestTwoLogsOfOneStore: P5.2, P5.3: what breaks one log leaves another one be.
func TestTwoLogsOfOneStore(t *testing.T) {
	s := files.New()
	l, other := wantOpened(t, "t", s, "t", 0, nil), wantOpened(t, "u", s, "u", 0, nil)
	ok(t, other.Append([]byte("o")))
	s.Power(3)
	want(t, "Checkpoint", l.Checkpoint([]byte("s")), api.ErrPower)
	wantBroken(t, "t", l, s)
	s.Power(-1)
	wantLog(t, "u", other, 0, 1)
	want(t, "Append", other.Append([]byte("p")), api.OK)
	want(t, "Checkpoint", other.Checkpoint([]byte("u")), api.OK)
	wantOpened(t, "t", s, "t", 1, []byte("s"))
	wantOpened(t, "u", s, "u", 1, []byte("u"))
}
