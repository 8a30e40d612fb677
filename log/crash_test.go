package log

import (
	"bytes"
	"math/rand"
	"strconv"
	"testing"

	"tocsin/api"
	"tocsin/files"
)

// history is what was done to a log, as far as its answers told it.
type history struct {
	number   int
	snapshot []byte   // of the last checkpoint that was done
	underWay []byte   // of the one that was under way when the power went; nil: none
	records  [][]byte // behind the last checkpoint
	synced   int      // so many of these a Sync that was OK has seen
	made     int      // records and snapshots so far: each is another one
}

// next is bytes that no other record or snapshot of the history has.
func (h *history) next(kind string) []byte {
	h.made++
	return []byte(kind + strconv.Itoa(h.made))
}

// do does one step to the log: a: Append, s: Sync, c: Checkpoint, o: Open anew; no, if the power went.
func (h *history) do(t *testing.T, s *files.Store, l **Log, step byte) bool {
	t.Helper()
	var e api.Errno
	switch step {
	case 'a':
		p := h.next("r")
		if e = (*l).Append(p); e == api.OK {
			h.records = append(h.records, p)
		}
	case 's':
		if e = (*l).Sync(); e == api.OK {
			h.synced = len(h.records)
		}
	case 'c':
		h.underWay = h.next("s")
		if e = (*l).Checkpoint(h.underWay); e == api.OK {
			*h = history{number: h.number + 1, snapshot: h.underWay, made: h.made}
		}
	case 'o':
		var snapshot []byte
		var records [][]byte
		var again *Log
		again, snapshot, records, e = Open(s, "t")
		if e == api.OK {
			check(t, "opened anew, as it was", bytes.Equal(snapshot, h.snapshot) && sameRecords(records, h.records))
			*l, h.synced = again, len(h.records)
		}
	}
	if e != api.OK && e != api.ErrPower {
		t.Fatalf("%c: %v", step, e)
	}
	return e == api.OK
}

// wantRecovered opens behind a crash, and fails, unless what is told may be by P5.5; then that is the history.
func (h *history) wantRecovered(t *testing.T, what string, s *files.Store) *Log {
	t.Helper()
	l, snapshot, records, e := Open(s, "t")
	if e != api.OK {
		t.Fatalf("%s: %v", what, e)
	}
	isLast := l.Number() == h.number && bytes.Equal(snapshot, h.snapshot) &&
		h.synced <= len(records) && len(records) <= len(h.records) && sameRecords(records, h.records[:len(records)])
	isUnderWay := h.underWay != nil && l.Number() == h.number+1 && bytes.Equal(snapshot, h.underWay) && len(records) == 0
	if !isLast && !isUnderWay || l.Count() != len(records) {
		t.Fatalf("%s: %d %q %q, want %+v", what, l.Number(), snapshot, records, *h)
	}
	*h = history{number: l.Number(), snapshot: snapshot, records: records, synced: len(records), made: h.made}
	return l
}

// run opens a new store's log and does the steps, till the power goes behind so many acts; gone: whether it went.
func run(t *testing.T, steps string, power int) (s *files.Store, h history, gone bool) {
	t.Helper()
	s = files.New()
	s.Power(power)
	l, _, _, e := Open(s, "t")
	if e != api.OK {
		want(t, "the first Open", e, api.ErrPower)
		return s, h, true
	}
	for i := range len(steps) {
		if !h.do(t, s, &l, steps[i]) {
			return s, h, true
		}
	}
	return s, h, false
}

// keeps is each way in which bytes that aren't synced may survive.
func keeps(d disk) [][]int {
	all := [][]int{{}}
	for _, name := range d.own("t") {
		c := d[name]
		if len(c.bytes) == c.synced {
			continue
		}
		var longer [][]int
		for _, keep := range all {
			for n := range len(c.bytes) - c.synced + 1 {
				longer = append(longer, append(keep[:len(keep):len(keep)], n))
			}
		}
		all = longer
	}
	return all
}

// wantRecovery fails, unless the log comes back behind a crash that leaves these files, the power going in each step of that, too; and it goes on.
func wantRecovery(t *testing.T, what string, d disk, h history) {
	t.Helper()
	direct := h
	direct.wantRecovered(t, what, d.store(t))
	acts := len(d.opened("t").acts)
	for power := range acts + 1 {
		s, h := d.store(t), h
		s.Power(power)
		Open(s, "t")
		s.Crash([]int{1, 1})
		l := h.wantRecovered(t, what+", again at "+strconv.Itoa(power), s)
		if h.number != direct.number || !sameRecords(h.records, direct.records) {
			t.Fatalf("%s, again at %d: %+v, want %+v", what, power, h, direct)
		}
		for _, step := range []byte("aasa") {
			check(t, what+", goes on", h.do(t, s, &l, step))
		}
		s.Crash([]int{power})
		l = h.wantRecovered(t, what+", a second crash", s)
		check(t, what+", goes on", h.do(t, s, &l, 'c') && h.do(t, s, &l, 'a'))
		s.Crash(nil)
		h.wantRecovered(t, what+", a third crash", s)
	}
}

// crashed lets the power go behind each act of the steps, with each of what may survive.
func crashed(t *testing.T, steps string) {
	t.Helper()
	for power := 0; ; power++ {
		s, h, gone := run(t, steps, power)
		before := diskOf(t, s)
		for _, keep := range keeps(before) {
			s := before.store(t)
			s.Crash(keep)
			wantRecovery(t, steps+", power "+strconv.Itoa(power), diskOf(t, s), h)
		}
		if !gone {
			return
		}
	}
}

// TestRecovery: P5.5: all rows of up to four steps.
func TestRecovery(t *testing.T) {
	rows := []string{""}
	for range 4 {
		var longer []string
		for _, row := range rows {
			for _, step := range "asco" {
				longer = append(longer, row+string(step))
			}
		}
		for _, steps := range longer {
			crashed(t, steps)
		}
		rows = longer
	}
}

// TestRecoveryLonger: P5.5: longer rows: several checkpoints, with records, synced and not, between them.
func TestRecoveryLonger(t *testing.T) {
	for _, steps := range []string{"aasacaaosac", "cacsacaasca", "asasaocococ", "ccccccccccca", "caaaoaacsaa"} {
		crashed(t, steps)
	}
}

// TestRecoveryDrawn: P5.5: one store over many crashes, at drawn moments of drawn steps, with drawn bytes that survive.
func TestRecoveryDrawn(t *testing.T) {
	r := rand.New(rand.NewSource(2))
	for range 60 {
		s, h := files.New(), history{}
		for round := range 40 {
			for range r.Intn(3) { // the power goes in the recovery
				s.Power(r.Intn(6))
				Open(s, "t")
				s.Crash([]int{r.Intn(9), r.Intn(9)})
			}
			l := h.wantRecovered(t, "round "+strconv.Itoa(round), s)
			s.Power(r.Intn(40))
			for range r.Intn(30) {
				if !h.do(t, s, &l, "aaaassco"[r.Intn(8)]) {
					break
				}
			}
			s.Crash([]int{r.Intn(30), r.Intn(30)})
		}
	}
}

// TestRecoveryWhileAlive: P5.5: the power goes between two calls: each Sync that was OK holds, a checkpoint that was done holds.
func TestRecoveryWhileAlive(t *testing.T) {
	s := files.New()
	l := wantOpened(t, "new", s, "t", 0, nil)
	ok(t, l.Append([]byte("a")))
	ok(t, l.Sync())
	ok(t, l.Append([]byte("b")))
	s.Crash(nil)
	l = wantOpened(t, "synced", s, "t", 0, nil, []byte("a"))
	ok(t, l.Append([]byte("c")))
	s.Crash([]int{100})
	l = wantOpened(t, "all survive", s, "t", 0, nil, []byte("a"), []byte("c"))
	ok(t, l.Checkpoint([]byte("s")))
	s.Crash(nil)
	l = wantOpened(t, "a checkpoint", s, "t", 1, []byte("s"))
	ok(t, l.Append([]byte("d")))
	s.Crash([]int{3})
	wantOpened(t, "torn", s, "t", 1, []byte("s"))
	wantDisk(t, "torn", s, disk{"tlog.1": {}, "tsnap.1": safe(framed([]byte("s")))})
}

// TestOpenSyncs: P5.1, P5.5: what Open told is safe, though nobody synced it ahead.
func TestOpenSyncs(t *testing.T) {
	s := files.New()
	l := wantOpened(t, "new", s, "t", 0, nil)
	ok(t, l.Append([]byte("a")))
	wantOpened(t, "told", s, "t", 0, nil, []byte("a"))
	s.Crash(nil)
	wantOpened(t, "told again", s, "t", 0, nil, []byte("a"))
}
