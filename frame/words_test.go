package frame

import (
	"bytes"
	"encoding/binary"
	"hash/crc32"
	"math/rand"
	"slices"
	"testing"

	"tocsin/api"
)

const most = 1 << 16 // bytes of a record, as the chapter has it

var castagnoli = crc32.MakeTable(crc32.Castagnoli)

// withSum puts the sum of the bytes behind them.
func withSum(pieces ...[]byte) []byte {
	b := slices.Concat(pieces...)
	return binary.LittleEndian.AppendUint32(b, crc32.Checksum(b, castagnoli))
}

// wantHead is a number in bytes.
func wantHead(n int) []byte { return binary.AppendUvarint(nil, uint64(n)) }

// wantFrame is the frame of a record by the chapter's words.
func wantFrame(p []byte) []byte { return withSum(wantHead(len(p)), p) }

// wantNext holds the beginning of the bytes against the frame of each record that it could be.
func wantNext(b []byte) (p []byte, used int, e api.Errno) {
	for n := range min(len(b), most) + 1 {
		head := wantHead(n)
		if !bytes.HasPrefix(b, head) || len(head)+n > len(b) {
			continue
		}
		p := b[len(head):][:n]
		if f := wantFrame(p); bytes.HasPrefix(b, f) {
			return p, len(f), api.OK
		}
	}
	return nil, 0, api.ErrFrame
}

// wantAll is the records of the whole frames at the beginning, and how many bytes these have.
func wantAll(b []byte) (records [][]byte, whole int) {
	for {
		p, used, e := wantNext(b[whole:])
		if e != api.OK {
			return records, whole
		}
		records, whole = append(records, p), whole+used
	}
}

// row frames records, one behind the other.
func row(records ...[]byte) []byte {
	var b []byte
	for _, p := range records {
		b = append(b, wantFrame(p)...)
	}
	return b
}

// someBytes draws n bytes; of some, noughts and alike ones alone.
func someBytes(r *rand.Rand, n int) []byte {
	b := make([]byte, n)
	switch r.Intn(6) {
	case 0:
	case 1:
		for i := range b {
			b[i] = 255
		}
	default:
		r.Read(b)
	}
	return b
}

// someRecords draws n records, many of them short, some of no bytes, a few around the lengths where a head grows.
func someRecords(r *rand.Rand, n int) [][]byte {
	sizes := []int{0, 0, 1, 2, 3, 5, 8, 40, 126, 127, 128, 129, 300}
	l := make([][]byte, n)
	for i := range l {
		l[i] = someBytes(r, sizes[r.Intn(len(sizes))])
	}
	return l
}

func short(b []byte) []byte { return b[:min(len(b), 40)] }

func check(t *testing.T, what string, ok bool) {
	t.Helper()
	if !ok {
		t.Errorf("%s", what)
	}
}

// wantNone fails, if the bytes are taken for the beginning of a frame, by any of the calls.
func wantNone(t *testing.T, what string, b []byte) {
	t.Helper()
	if p, used, e := Next(b); p != nil || used != 0 || e != api.ErrFrame {
		t.Errorf("Next, %s: %v %d %v", what, short(p), used, e)
	}
	wantRow(t, what, b, nil, 0)
}

// wantOne fails, if the bytes aren't told to begin with the frame of p, so long.
func wantOne(t *testing.T, what string, b, p []byte, used int) {
	t.Helper()
	if got, n, e := Next(b); !bytes.Equal(got, p) || n != used || e != api.OK {
		t.Errorf("Next, %s: %v (%d) %d %v, want %v (%d) %d", what, short(got), len(got), n, e, short(p), len(p), used)
	}
}

// wantRow fails, if other records are told, or another length.
func wantRow(t *testing.T, what string, b []byte, records [][]byte, whole int) {
	t.Helper()
	if got := slices.Collect(All(b)); !slices.EqualFunc(got, records, bytes.Equal) {
		t.Errorf("All, %s: %d records, want %d: %v", what, len(got), len(records), short(b))
	}
	if got := Whole(b); got != whole {
		t.Errorf("Whole, %s: %d, want %d: %v", what, got, whole, short(b))
	}
}

// wantWords holds all calls against the words.
func wantWords(t *testing.T, what string, b []byte) {
	t.Helper()
	if p, used, e := wantNext(b); e == api.OK {
		wantOne(t, what, b, p, used)
	} else {
		wantNone(t, what, b)
	}
	records, whole := wantAll(b)
	wantRow(t, what, b, records, whole)
}
