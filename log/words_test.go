package log

import (
	"bytes"
	"encoding/binary"
	"hash/crc32"
	"maps"
	"regexp"
	"slices"
	"strconv"
	"strings"
	"testing"

	"tocsin/api"
	"tocsin/files"
)

const most = 1 << 16 // bytes of a record, as chapter 4 has it

var castagnoli = crc32.MakeTable(crc32.Castagnoli)

// framed is the records' frames, one behind the other, by chapter 4's words.
func framed(records ...[]byte) []byte {
	all := []byte{}
	for _, p := range records {
		b := append(binary.AppendUvarint(nil, uint64(len(p))), p...)
		all = append(all, binary.LittleEndian.AppendUint32(b, crc32.Checksum(b, castagnoli))...)
	}
	return all
}

// unframed is the records of the whole frames at the beginning, and what is left behind them.
func unframed(b []byte) (records [][]byte, left []byte) {
	for {
		n, head := binary.Uvarint(b)
		if head <= 0 || n > most || head+int(n)+4 > len(b) {
			return records, b
		}
		p := b[head : head+int(n)]
		f := framed(p)
		if !bytes.HasPrefix(b, f) {
			return records, b
		}
		records, b = append(records, p), b[len(f):]
	}
}

// content is a file's: its bytes, and how many of them are synced.
type content struct {
	bytes  string
	synced int
}

// safe is the content of these bytes, all synced; loose: none is.
func safe(b []byte) content  { return content{string(b), len(b)} }
func loose(b []byte) content { return content{string(b), 0} }

// disk is the files of a store, by names.
type disk map[string]content

// store makes a new store of just these files.
func (d disk) store(t *testing.T) *files.Store {
	t.Helper()
	s := files.New()
	for name, c := range d {
		ok(t, s.Append(name, []byte(c.bytes[:c.synced])))
		if c.synced > 0 {
			ok(t, s.Sync(name))
		}
		ok(t, s.Append(name, []byte(c.bytes[c.synced:])))
	}
	return s
}

// diskOf is the files of a store, be it dead or not; nothing is set behind it.
func diskOf(t *testing.T, s *files.Store) disk {
	t.Helper()
	s.Power(-1)
	d := disk{}
	for _, name := range s.Names() {
		b, e := s.Read(name)
		ok(t, e)
		n, e := s.Synced(name)
		ok(t, e)
		d[name] = content{string(b), n}
	}
	return d
}

// act is one of a store's: a call and its arguments.
type act struct {
	call, name, to string
	bytes          []byte
	n              int
}

// after is the files behind these acts.
func (d disk) after(acts ...act) disk {
	d = maps.Clone(d)
	for _, a := range acts {
		c := d[a.name]
		switch a.call {
		case "append":
			d[a.name] = content{c.bytes + string(a.bytes), c.synced}
		case "sync":
			d[a.name] = content{c.bytes, len(c.bytes)}
		case "truncate":
			d[a.name] = content{c.bytes[:a.n], min(c.synced, a.n)}
		case "rename":
			delete(d, a.name)
			d[a.to] = c
		case "remove":
			delete(d, a.name)
		}
	}
	return d
}

// ownName: what a log's files are called, behind the prefix.
var ownName = regexp.MustCompile(`^(log\.(0|[1-9][0-9]{0,8})|snap\.[1-9][0-9]{0,8}|new)$`)

// own is the names of a prefix's files, rising.
func (d disk) own(prefix string) []string {
	return slices.DeleteFunc(slices.Sorted(maps.Keys(d)), func(name string) bool {
		return !strings.HasPrefix(name, prefix) || !ownName.MatchString(name[len(prefix):])
	})
}

// opening is what Open does and tells by the chapter's words, if the power stays.
type opening struct {
	acts     []act
	number   int
	snapshot []byte
	records  [][]byte
	e        api.Errno
}

// opened goes through the section 'To open'.
func (d disk) opened(prefix string) (o opening) {
	if _, is := d[prefix+"new"]; is {
		o.acts = append(o.acts, act{call: "remove", name: prefix + "new"})
	}
	for _, name := range d.own(prefix) {
		digits, is := strings.CutPrefix(name, prefix+"snap.")
		if !is {
			continue
		}
		n, _ := strconv.Atoi(digits)
		records, left := unframed([]byte(d[name].bytes))
		if len(records) == 1 && len(left) == 0 && n > o.number {
			o.number, o.snapshot = n, records[0]
		}
	}
	if o.number == 999_999_999 {
		return opening{acts: o.acts, e: api.ErrLog}
	}
	file := prefix + "log." + strconv.Itoa(o.number)
	if _, is := d[file]; !is {
		o.acts = append(o.acts, act{call: "append", name: file})
	}
	records, left := unframed([]byte(d[file].bytes))
	o.records = records
	if len(left) > 0 {
		o.acts = append(o.acts, act{call: "truncate", name: file, n: len(d[file].bytes) - len(left)})
	}
	o.acts = append(o.acts, act{call: "sync", name: file})
	for _, name := range d.own(prefix) {
		if name != prefix+"new" && name != file && name != prefix+"snap."+strconv.Itoa(o.number) {
			o.acts = append(o.acts, act{call: "remove", name: name})
		}
	}
	return o
}

// checkpointed is the acts of a checkpoint by P5.3, and how many of them there are up to the renaming.
func (d disk) checkpointed(prefix string, number int, snapshot []byte) (acts []act, renamed int) {
	if _, is := d[prefix+"new"]; is {
		acts = append(acts, act{call: "remove", name: prefix + "new"})
	}
	was, will := strconv.Itoa(number), strconv.Itoa(number+1)
	acts = append(acts,
		act{call: "append", name: prefix + "new", bytes: framed(snapshot)},
		act{call: "sync", name: prefix + "new"},
		act{call: "rename", name: prefix + "new", to: prefix + "snap." + will})
	renamed = len(acts)
	acts = append(acts,
		act{call: "append", name: prefix + "log." + will},
		act{call: "remove", name: prefix + "log." + was})
	if number > 0 {
		acts = append(acts, act{call: "remove", name: prefix + "snap." + was})
	}
	return acts, renamed
}

func ok(t *testing.T, e api.Errno) {
	t.Helper()
	if e != api.OK {
		t.Fatal(e)
	}
}

func want(t *testing.T, what string, got, want api.Errno) {
	t.Helper()
	if got != want {
		t.Errorf("%s: %v, want %v", what, got, want)
	}
}

func check(t *testing.T, what string, is bool) {
	t.Helper()
	if !is {
		t.Error(what)
	}
}

// wantDisk fails, if the store has other files; nothing is set behind it.
func wantDisk(t *testing.T, what string, s *files.Store, d disk) {
	t.Helper()
	if got := diskOf(t, s); !maps.Equal(got, d) {
		t.Errorf("%s: files %v, want %v", what, got, d)
	}
}

func wantLog(t *testing.T, what string, l *Log, number, count int) {
	t.Helper()
	if l.Number() != number || l.Count() != count {
		t.Errorf("%s: Number, Count: %d %d, want %d %d", what, l.Number(), l.Count(), number, count)
	}
}

func wantNames(t *testing.T, s *files.Store, names ...string) {
	t.Helper()
	if got := s.Names(); !slices.Equal(got, names) {
		t.Errorf("Names: %q, want %q", got, names)
	}
}

func sameRecords(a, b [][]byte) bool { return slices.EqualFunc(a, b, bytes.Equal) }

// wantOpened opens, and fails, if something else is told.
func wantOpened(t *testing.T, what string, s *files.Store, prefix string, number int, snapshot []byte, records ...[]byte) *Log {
	t.Helper()
	l, gotSnapshot, gotRecords, e := Open(s, prefix)
	if e != api.OK || l == nil {
		t.Fatalf("%s: Open: %v", what, e)
	}
	if !bytes.Equal(gotSnapshot, snapshot) || !sameRecords(gotRecords, records) {
		t.Errorf("%s: Open: %v %v, want %v %v", what, gotSnapshot, gotRecords, snapshot, records)
	}
	wantLog(t, what, l, number, len(records))
	return l
}

// wantRefused opens, and fails, if that is not refused so, or something is told beside it.
func wantRefused(t *testing.T, what string, s *files.Store, prefix string, e api.Errno) {
	t.Helper()
	l, snapshot, records, got := Open(s, prefix)
	if l != nil || snapshot != nil || records != nil || got != e {
		t.Errorf("%s: Open: %v %v %v %v, want %v", what, l, snapshot, records, got, e)
	}
}

// wantOpening opens a store of these files, the power going behind each of the acts, and not at all, and holds it against the words.
func wantOpening(t *testing.T, what string, d disk, prefix string) {
	t.Helper()
	o := d.opened(prefix)
	for power := range len(o.acts) + 2 {
		what := what + ", power " + strconv.Itoa(power)
		s := d.store(t)
		s.Power(power)
		if power == 0 || power < len(o.acts) || o.e != api.OK && power == len(o.acts) {
			wantRefused(t, what, s, prefix, api.ErrPower)
		} else if o.e != api.OK {
			wantRefused(t, what, s, prefix, o.e)
		} else {
			wantOpened(t, what, s, prefix, o.number, o.snapshot, o.records...)
		}
		wantDisk(t, what, s, d.after(o.acts[:min(power, len(o.acts))]...))
	}
}
