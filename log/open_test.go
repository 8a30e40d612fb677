package log

import (
	"bytes"
	"maps"
	"math/rand"
	"slices"
	"strconv"
	"strings"
	"testing"

	"tocsin/api"
	"tocsin/files"
)

// TestOpenRefused: P5.1, P0.2, P0.3: ErrNil, ErrPower, ErrArg, in this order; the store is as it was.
func TestOpenRefused(t *testing.T) {
	long := strings.Repeat("p", 17)
	for _, s := range []*files.Store{nil, {}, new(files.Store)} {
		for _, prefix := range []string{"", "t", long} {
			wantRefused(t, "no store", s, prefix, api.ErrNil)
		}
	}
	d := disk{"tnew": loose([]byte{1}), "tlog.0": loose([]byte{1, 2}), "tlog.7": {}, long: {}}
	for _, prefix := range []string{"", "t", "x", long} {
		s := d.store(t)
		acts := s.Acts()
		s.Power(0)
		wantRefused(t, "dead", s, prefix, api.ErrPower)
		check(t, "dead still", s.Dead() && s.Acts() == acts)
		wantDisk(t, "dead", s, d)
	}
	s := d.store(t)
	acts := s.Acts()
	for _, prefix := range []string{long, strings.Repeat("é", 8) + "x", strings.Repeat("p", 32), strings.Repeat("p", 1<<20)} {
		wantRefused(t, "a long prefix", s, prefix, api.ErrArg)
	}
	check(t, "no acts", s.Acts() == acts)
	wantDisk(t, "a long prefix", s, d)
}

// TestOpenNew: P5.1: a store without files: one is made, of no bytes; two acts.
func TestOpenNew(t *testing.T) {
	for _, prefix := range []string{"", "t", strings.Repeat("p", 16), strings.Repeat("é", 8), "\x00\xff", "a.b/c", "new", "log.", "log.0"} {
		s := files.New()
		l := wantOpened(t, prefix, s, prefix, 0, nil)
		wantNames(t, s, prefix+"log.0")
		check(t, "acts", s.Acts() == 2)
		ok(t, l.Append([]byte("r")))
		ok(t, l.Sync())
		wantDisk(t, prefix, s, disk{prefix + "log.0": safe(framed([]byte("r")))})
		wantOpening(t, prefix, disk{}, prefix)
	}
}

// TestLongestNames: P5.1, P5.3: a prefix of 16 bytes and a number of 9 digits may be.
func TestLongestNames(t *testing.T) {
	prefix := strings.Repeat("p", 16)
	s := disk{prefix + "snap.999999997": safe(framed([]byte("s")))}.store(t)
	l := wantOpened(t, "longest", s, prefix, 999_999_997, []byte("s"))
	ok(t, l.Checkpoint([]byte("u")))
	wantNames(t, s, prefix+"log.999999998", prefix+"snap.999999998")
	wantOpened(t, "longest", s, prefix, 999_999_998, []byte("u"))
}

// TestPrefixesApart: P5.1: logs of several prefixes in one store, some of which begin with others, or with names of files.
func TestPrefixesApart(t *testing.T) {
	prefixes := []string{"", "t", "tt", "tlog.", "tsnap.", "tnew", "log.", "snap.", "snap.1", "new", "tlog.0", "u"}
	s := files.New()
	logs := map[string]*Log{}
	for _, prefix := range prefixes {
		logs[prefix] = wantOpened(t, prefix, s, prefix, 0, nil)
		ok(t, logs[prefix].Append([]byte("record of "+prefix)))
	}
	for _, prefix := range prefixes {
		logs[prefix] = wantOpened(t, prefix, s, prefix, 0, nil, []byte("record of "+prefix))
	}
	for i, prefix := range prefixes {
		for range i % 3 {
			ok(t, logs[prefix].Checkpoint([]byte("snapshot of "+prefix)))
		}
		ok(t, logs[prefix].Append([]byte("another of "+prefix)))
	}
	for i, prefix := range prefixes {
		records := [][]byte{[]byte("record of " + prefix), []byte("another of " + prefix)}
		if i%3 > 0 {
			wantOpened(t, prefix, s, prefix, i%3, []byte("snapshot of "+prefix), records[1])
		} else {
			wantOpened(t, prefix, s, prefix, 0, nil, records...)
		}
	}
}

// TestOpenDropsNew: P5.1: the file `new` is removed, whole or not, synced or not; it is no snapshot; those of others stay.
func TestOpenDropsNew(t *testing.T) {
	for _, c := range []content{{}, safe([]byte{1}), safe(framed([]byte("s"))), loose(framed([]byte("s")))} {
		d := disk{"tnew": c, "ttnew": c, "new": c, "tnew.": c, "tnew.1": c, "tnew1": c, "tne": c, "tNew": c, "xtnew": c}
		wantOpening(t, "new", d, "t")
		s := d.store(t)
		wantOpened(t, "new", s, "t", 0, nil)
		d = maps.Clone(d)
		delete(d, "tnew")
		d["tlog.0"] = content{}
		wantDisk(t, "new", s, d)
	}
}

// notOwn: names that are no log's of the prefix t, though some come near to it.
func notOwn() []string {
	return []string{
		"t", "x", "log.0", "log.1", "snap.1", "new", "Tlog.1", "tlog", "tlog.", "tsnap", "tsnap.", "tlog.x", "tsnap.x", "tlog1", "tsnap1",
		"tlog.00", "tlog.01", "tlog.007", "tsnap.00", "tsnap.01", "tsnap.007", "tsnap.000000001", "tsnap.0000000001", "tsnap.0",
		"tlog.1000000000", "tsnap.1000000000", "tsnap.9999999999", "tlog.0000000000", "tsnap.18446744073709551617", "tlog.4294967296",
		"tlog.-1", "tlog.+1", "tsnap.-1", "tsnap.+1", "tsnap.-0", "tlog.-0", "tlog. 1", "tsnap.1 ", "tsnap.1.", "tsnap.1\n", "tsnap.\x001",
		"tsnap.1_0", "tsnap.0x1", "tsnap.1e3", "tsnap.1.0", "tsnap.١", "tlog.1x", "tSnap.1", "tsnap.1new", "tlog.log.1", "ttlog.1", "ttsnap.1",
	}
}

// TestNotOwnStay: P5.1: files that aren't the log's own are neither taken, nor changed, nor removed.
func TestNotOwnStay(t *testing.T) {
	d := disk{}
	for _, name := range notOwn() {
		d[name] = content{string(framed([]byte("of " + name))), 3}
	}
	s := d.store(t)
	l := wantOpened(t, "not its own", s, "t", 0, nil)
	d["tlog.0"] = content{}
	wantDisk(t, "behind Open", s, d)
	ok(t, l.Append([]byte("r")))
	ok(t, l.Checkpoint([]byte("s")))
	ok(t, l.Append([]byte("q")))
	ok(t, l.Sync())
	delete(d, "tlog.0")
	d["tlog.1"], d["tsnap.1"] = safe(framed([]byte("q"))), safe(framed([]byte("s")))
	wantDisk(t, "behind Checkpoint", s, d)
	wantOpened(t, "again", s, "t", 1, []byte("s"), []byte("q"))
	wantDisk(t, "behind Open again", s, d)
}

// TestNotOwnOneByOne: P5.1: the same, each of them alone, and beside a log with a number.
func TestNotOwnOneByOne(t *testing.T) {
	for _, name := range notOwn() {
		d := disk{name: safe(framed([]byte("s")))}
		wantOpening(t, name, d, "t")
		d["tsnap.3"], d["tlog.3"] = safe(framed([]byte("three"))), safe(framed([]byte("r")))
		s := d.store(t)
		wantOpened(t, name, s, "t", 3, []byte("three"), []byte("r"))
		wantDisk(t, name, s, d)
	}
}

// TestSnapshots: P5.1: which of the files `snap.` is taken.
func TestSnapshots(t *testing.T) {
	whole := framed([]byte("whole"))
	none := framed(nil)
	for _, c := range []struct {
		what     string
		files    disk
		number   int
		snapshot string
	}{
		{"none", disk{}, 0, ""},
		{"one", disk{"tsnap.1": safe(whole)}, 1, "whole"},
		{"one, not synced", disk{"tsnap.1": loose(whole)}, 1, "whole"},
		{"of no bytes", disk{"tsnap.1": safe(none)}, 1, ""},
		{"an empty file", disk{"tsnap.1": {}}, 0, ""},
		{"torn", disk{"tsnap.1": safe(whole[:len(whole)-1])}, 0, ""},
		{"torn at the beginning", disk{"tsnap.1": safe(whole[1:])}, 0, ""},
		{"a byte behind it", disk{"tsnap.1": safe(append(slices.Clone(whole), 0))}, 0, ""},
		{"a frame behind it", disk{"tsnap.1": safe(slices.Concat(whole, none))}, 0, ""},
		{"a byte otherwise", disk{"tsnap.1": safe(append(slices.Clone(whole[:5]), append([]byte{whole[5] ^ 1}, whole[6:]...)...))}, 0, ""},
		{"noughts", disk{"tsnap.1": safe(make([]byte, 5))}, 0, ""},
		{"the greatest", disk{"tsnap.1": safe(none), "tsnap.2": safe(whole)}, 2, "whole"},
		{"the greatest by number, not by name", disk{"tsnap.9": safe(none), "tsnap.10": safe(whole)}, 10, "whole"},
		{"the greatest by number, among many", disk{"tsnap.99": safe(none), "tsnap.100": safe(whole), "tsnap.2": safe(none), "tsnap.11": safe(none)}, 100, "whole"},
		{"the greatest is torn", disk{"tsnap.1": safe(none), "tsnap.2": safe(whole), "tsnap.3": safe(whole[:3])}, 2, "whole"},
		{"the greatest has bytes behind it", disk{"tsnap.2": safe(whole), "tsnap.30": safe(slices.Concat(none, none))}, 2, "whole"},
		{"0", disk{"tsnap.0": safe(none), "tlog.0": {}}, 0, ""},
		{"0 beside 1", disk{"tsnap.0": safe(none), "tsnap.1": safe(whole)}, 1, "whole"},
		{"noughts ahead", disk{"tsnap.02": safe(none), "tsnap.1": safe(whole)}, 1, "whole"},
		{"9 digits", disk{"tsnap.123456789": safe(whole), "tsnap.2": safe(none)}, 123456789, "whole"},
		{"9 digits, the least", disk{"tsnap.100000000": safe(whole), "tsnap.99999999": safe(none)}, 100000000, "whole"},
		{"10 digits", disk{"tsnap.1000000000": safe(none), "tsnap.5": safe(whole)}, 5, "whole"},
		{"999,999,998", disk{"tsnap.999999998": safe(whole)}, 999_999_998, "whole"},
		{"999,999,999, torn", disk{"tsnap.999999999": safe(whole[:4]), "tsnap.999999998": safe(whole)}, 999_999_998, "whole"},
		{"only logs", disk{"tlog.4": safe(whole), "tlog.0": safe(whole[:2])}, 0, ""},
	} {
		s := c.files.store(t)
		wantOpened(t, c.what, s, "t", c.number, []byte(c.snapshot))
		wantOpening(t, c.what, c.files, "t")
	}
}

// TestSnapshotLengths: P5.1: the longest that may be, and one more, which is no frame.
func TestSnapshotLengths(t *testing.T) {
	for _, n := range []int{0, 1, 127, 128, 16384, most - 1, most} {
		p := bytes.Repeat([]byte{7}, n)
		wantOpened(t, strconv.Itoa(n), disk{"tsnap.1": safe(framed(p))}.store(t), "t", 1, p)
	}
	s := disk{"tsnap.1": safe(framed(make([]byte, most+1)))}.store(t)
	wantOpened(t, "one more", s, "t", 0, nil)
	wantNames(t, s, "tlog.0")
}

// TestNumberBeyond: P5.1: ErrLog, if N is 999,999,999. N comes to be known in the second step, when `new` is removed already; nothing else has changed.
func TestNumberBeyond(t *testing.T) {
	whole := safe(framed([]byte("s")))
	d := disk{"tsnap.999999999": whole, "tsnap.999999998": whole, "tlog.999999999": loose([]byte{1, 2}), "tlog.0": {}, "x": whole}
	wantOpening(t, "beyond", d, "t")
	s := d.store(t)
	acts := s.Acts()
	wantRefused(t, "beyond", s, "t", api.ErrLog)
	wantRefused(t, "beyond, again", s, "t", api.ErrLog)
	check(t, "no acts", s.Acts() == acts)
	wantDisk(t, "beyond", s, d)
	wantOpened(t, "another prefix", s, "u", 0, nil)
	d["tnew"] = whole
	wantOpening(t, "beyond, with new", d, "t")
}

// TestRecords: P5.1: the file of the records: missing, empty, whole, torn, with anything behind, synced or not.
func TestRecords(t *testing.T) {
	one, two := []byte("one"), []byte("two")
	both := framed(one, two)
	for number := range 3 {
		file := "tlog." + strconv.Itoa(number)
		with := func(c content) disk {
			d := disk{file: c}
			if number > 0 {
				d["tsnap."+strconv.Itoa(number)] = safe(framed([]byte("s")))
			}
			return d
		}
		missing := with(content{})
		delete(missing, file)
		wantOpening(t, "missing", missing, "t")
		wantOpening(t, "empty", with(content{}), "t")
		for cut := range len(both) + 1 {
			for _, synced := range []int{0, cut / 2, cut} {
				d := with(content{string(both[:cut]), synced})
				wantOpening(t, "cut at "+strconv.Itoa(cut), d, "t")
			}
		}
		for _, behind := range [][]byte{{0}, {255}, make([]byte, 9), []byte("junk"), framed(one)[:4], append([]byte{0}, both...)} {
			d := with(safe(slices.Concat(both, behind)))
			wantOpening(t, "something behind", d, "t")
			s := d.store(t)
			_, _, records, e := Open(s, "t")
			check(t, "both", e == api.OK && sameRecords(records, [][]byte{one, two}))
			wantDisk(t, "cut", s, with(safe(both)))
		}
		other := slices.Clone(both)
		other[1] ^= 1
		wantOpening(t, "the first one is otherwise", with(safe(other)), "t")
	}
}

// TestRecordLengths: P5.1: records of no bytes, of MaxFrame; one of more is none, nor those behind it.
func TestRecordLengths(t *testing.T) {
	longest := bytes.Repeat([]byte{9}, most)
	s := disk{"tlog.0": safe(framed(nil, longest, nil))}.store(t)
	wantOpened(t, "longest", s, "t", 0, nil, nil, longest, nil)
	s = disk{"tlog.0": safe(framed([]byte("a"), make([]byte, most+1), []byte("b")))}.store(t)
	wantOpened(t, "one more", s, "t", 0, nil, []byte("a"))
	wantDisk(t, "one more", s, disk{"tlog.0": safe(framed([]byte("a")))})
}

// TestOthersGo: P5.1: all others of its files are removed, by rising names.
func TestOthersGo(t *testing.T) {
	whole, torn := safe(framed([]byte("w"))), loose([]byte{3, 1})
	for _, d := range []disk{
		{"tlog.0": whole, "tlog.1": whole, "tlog.2": torn, "tlog.10": whole, "tlog.999999999": torn, "tsnap.4": torn, "tsnap.999999999": torn},
		{"tlog.0": whole, "tlog.2": whole, "tsnap.1": whole, "tsnap.2": whole, "tsnap.10": torn, "tlog.10": whole, "tlog.1": torn},
		{"tlog.5": whole, "tlog.50": whole, "tlog.6": torn, "tsnap.5": whole, "tsnap.6": torn, "tsnap.50": torn, "tnew": torn, "tlog.500": {}},
	} {
		d["ulog.3"], d["log.3"], d["tlog.03"] = whole, torn, whole
		wantOpening(t, "others", d, "t")
	}
}

// TestOpenFull: P5.1: the store's other errors are the answer, the steps ahead of it being done.
func TestOpenFull(t *testing.T) {
	d := disk{}
	for i := range 64 {
		d["f"+strconv.Itoa(i)] = content{}
	}
	s := d.store(t)
	wantRefused(t, "full", s, "t", api.ErrFull)
	wantDisk(t, "full", s, d)
	d["tnew"] = d["f0"]
	delete(d, "f0")
	s = d.store(t)
	wantOpened(t, "full, but for new", s, "t", 0, nil)
	delete(d, "tnew")
	d["tsnap.1"] = safe(framed(nil))
	s = d.store(t)
	wantRefused(t, "full, with a snapshot", s, "t", api.ErrFull)
	wantDisk(t, "full, with a snapshot", s, d)
}

// TestOpenAgain: P5.1: each time the same is told; the files stay.
func TestOpenAgain(t *testing.T) {
	s := files.New()
	l := wantOpened(t, "new", s, "t", 0, nil)
	ok(t, l.Append([]byte("a")))
	for range 3 {
		wantOpened(t, "again", s, "t", 0, nil, []byte("a"))
		wantDisk(t, "again", s, disk{"tlog.0": safe(framed([]byte("a")))})
	}
	ok(t, l.Checkpoint([]byte("s")))
	for range 3 {
		wantOpened(t, "again", s, "t", 1, []byte("s"))
		wantDisk(t, "again", s, disk{"tlog.1": {}, "tsnap.1": safe(framed([]byte("s")))})
	}
}

// someContent draws a file's.
func someContent(r *rand.Rand) content {
	b := framed()
	for range r.Intn(3) {
		b = append(b, framed(bytes.Repeat([]byte{byte(r.Intn(256))}, r.Intn(4)))...)
	}
	switch r.Intn(4) {
	case 0:
		b = b[:r.Intn(len(b)+1)]
	case 1:
		b = append(b, byte(r.Intn(3)))
	}
	return content{string(b), r.Intn(len(b) + 1)}
}

// TestDrawnDisks: P5.1: stores of drawn files, the power going at each step.
func TestDrawnDisks(t *testing.T) {
	r := rand.New(rand.NewSource(1))
	names := []string{"new", "log.0", "log.1", "log.2", "log.10", "snap.1", "snap.2", "snap.10", "snap.999999998", "snap.999999999", "log.999999999", "snap.01", "snap.0", "other"}
	for range 4000 {
		d := disk{}
		for range r.Intn(9) {
			prefix := []string{"t", "t", "t", "", "tt"}[r.Intn(5)]
			d[prefix+names[r.Intn(len(names))]] = someContent(r)
		}
		wantOpening(t, "drawn", d, "t")
	}
}
