package codec

import (
	"bytes"
	"math"
	"math/rand"
	"slices"
	"strings"
	"testing"

	"tocsin/api"
)

// alphabet: bytes at which forms differ.
var alphabet = []byte{0, 1, 2, 3, 127, 128, 129, 255}

// rows is all rows of up to n bytes of the alphabet.
func rows(n int) [][]byte {
	all, longest := [][]byte{nil}, [][]byte{nil}
	for range n {
		var longer [][]byte
		for _, b := range longest {
			for _, c := range alphabet {
				longer = append(longer, append(slices.Clone(b), c))
			}
		}
		all, longest = append(all, longer...), longer
	}
	return all
}

// wantAll holds each call over the bytes against the words, Len with several ones of most.
func wantAll(t *testing.T, b []byte) {
	t.Helper()
	for k := range kLen {
		wantWords(t, b, k, 0)
	}
	for _, most := range []int{math.MinInt, -1, 0, 1, 2, 127, 128, math.MaxInt} {
		wantWords(t, b, kLen, most)
	}
}

// TestExamplesRead: the chapter's second table (P6.2, P6.3).
func TestExamplesRead(t *testing.T) {
	r := Over([]byte{128, 0})
	check(t, "128 0", r.Uint() == 0)
	wantFailed(t, "128 0", r)
	r = Over([]byte{2})
	check(t, "2: Bool", !r.Bool())
	wantFailed(t, "2: Bool", r)
	r = Over([]byte{2, 97})
	check(t, "2 97: Text", r.Text() == "")
	wantFailed(t, "2 97: Text", r)
	r = Over(append(bytes.Repeat([]byte{255}, 9), 2))
	check(t, "nine times 255, 2", r.Uint() == 0)
	wantFailed(t, "nine times 255, 2", r)
	r = Over([]byte{5})
	check(t, "5: Len 4", r.Len(4) == 0)
	wantFailed(t, "5: Len 4", r)
	r = Over([]byte{5})
	check(t, "5: Len 5", r.Len(5) == 5)
	wantState(t, "5: Len 5", r, api.OK, api.OK)
	r = Over([]byte{7, 1})
	check(t, "7 1", r.Uint() == 7 && r.Done() == api.ErrCode && r.Uint() == 1 && r.Done() == api.OK)
}

// TestReadsWords: P6.2, P6.3: all short rows, at each call, by the words.
func TestReadsWords(t *testing.T) {
	for _, b := range rows(4) {
		wantAll(t, b)
	}
}

// TestReadsDrawn: P6.2, P6.3: forms of which some bytes are others, or cut, or more, by the words.
func TestReadsDrawn(t *testing.T) {
	r := rand.New(rand.NewSource(3))
	for range 3000 {
		b := wantForm(someValue(r))
		if r.Intn(2) == 0 {
			b = append(b, wantForm(someValue(r))...)
		}
		if i := r.Intn(len(b)); r.Intn(2) == 0 {
			b[i] ^= 1 << r.Intn(8)
		}
		wantAll(t, b[:len(b)-r.Intn(2)])
	}
}

// TestNumbersRead: P6.2: each edge, at each call, alone and with bytes behind it.
func TestNumbersRead(t *testing.T) {
	for _, v := range edgeNumbers() {
		for _, behind := range [][]byte{nil, {0}, {1, 2}, {255}} {
			wantAll(t, append(wantUint(v), behind...))
		}
		if got := Over(wantUint(v)).Uint(); got != v {
			t.Errorf("%d is read as %d", v, got)
		}
	}
	for _, v := range edgeSigned() {
		if got := Over(wantForm(value{kind: kInt, i: v})).Int(); got != v {
			t.Errorf("%d is read as %d", v, got)
		}
	}
}

// TestTenBytes: P6.2: the tenth byte may be 1 alone; all else is more than 2^64 - 1, or goes on, or is a nought behind a number.
func TestTenBytes(t *testing.T) {
	for _, c := range []byte{128, 129, 255} {
		for last := range 256 {
			b := append(bytes.Repeat([]byte{c}, 9), byte(last))
			wantAll(t, b)
			r := Over(b)
			if v := r.Uint(); (r.Err() == api.OK) != (last == 1) || (v > 0) != (last == 1) {
				t.Errorf("nine times %d, %d: %d, %d", c, last, v, r.Err())
			}
		}
	}
	least := append(bytes.Repeat([]byte{128}, 9), 1)
	check(t, "2^63", Over(least).Uint() == 1<<63)
	check(t, "2^64 - 1", Over(ones).Uint() == math.MaxUint64)
	check(t, "the least", Over(ones).Int() == math.MinInt64)
}

// TestManyBytes: P6.2: eleven bytes and more are no number's, whatever they end with.
func TestManyBytes(t *testing.T) {
	for _, c := range []byte{128, 129, 255} {
		for _, n := range []int{10, 11, 12, 15, 18, 19, 40, 1000} {
			for _, last := range []byte{0, 1, 2, 127, 128, 255} {
				r := Over(append(bytes.Repeat([]byte{c}, n), last))
				check(t, "many bytes", r.Uint() == 0)
				wantFailed(t, "many bytes", r)
			}
		}
	}
	wantAll(t, append(bytes.Repeat([]byte{128}, 10), 1))
	wantAll(t, append(slices.Clone(ones[:9]), 129, 0))
	wantAll(t, append(slices.Clone(ones[:9]), 129, 1))
}

// TestNoughtsBehind: P6.2: a number with noughts behind it isn't in its form.
func TestNoughtsBehind(t *testing.T) {
	for _, v := range edgeNumbers() {
		b := wantUint(v)
		for range 4 {
			b[len(b)-1] |= 128
			b = append(b, 0)
			wantAll(t, b)
			r := Over(b)
			check(t, "Uint", r.Uint() == 0)
			wantFailed(t, "noughts behind", r)
		}
	}
}

// TestCut: P6.2: a number that is cut is none; nor does the spare room behind the bytes count.
func TestCut(t *testing.T) {
	for _, v := range edgeNumbers() {
		b := wantUint(v)
		for n := range len(b) {
			wantAll(t, b[:n])
			r := Over(b[:n])
			check(t, "Uint", r.Uint() == 0)
			wantFailed(t, "cut", r)
		}
	}
	text := wantForm(value{kind: kText, p: strings.Repeat("t", 130)})
	for n := range len(text) {
		wantWords(t, text[:n], kText, 0)
		wantWords(t, text[:n], kBytes, 0)
	}
}

// TestBoolRead: P6.2: each byte; 0 and 1 alone are a bool's.
func TestBoolRead(t *testing.T) {
	for c := range 256 {
		for _, behind := range [][]byte{nil, {0}, {1}, {9, 9}} {
			b := append([]byte{byte(c)}, behind...)
			wantWords(t, b, kBool, 0)
			r := Over(b)
			if got := r.Bool(); got != (c == 1) || (r.Err() == api.OK) != (c <= 1) {
				t.Errorf("%v: %v %d", b, got, r.Err())
			}
		}
	}
	wantWords(t, nil, kBool, 0)
}

// TestBytesRead: P6.2: of no bytes, of all that is left, with more behind; a length beyond what is there.
func TestBytesRead(t *testing.T) {
	for _, n := range []int{0, 1, 2, 127, 128, 300, 16384} {
		p := strings.Repeat("\xfe", n)
		form := append(wantUint(uint64(n)), p...)
		for _, k := range []kind{kBytes, kText} {
			wantWords(t, form, k, 0)
			wantWords(t, append(slices.Clone(form), 1, 128, 1), k, 0)
			for _, more := range []uint64{1, 2, 100, 1 << 31, 1<<32 - 1, 1 << 32, 1<<63 - 1 - uint64(n), 1<<63 - uint64(n), 1 << 63, math.MaxUint64 - uint64(n)} {
				b := append(wantUint(uint64(n)+more), p...)
				wantWords(t, b, k, 0)
				r := Over(b)
				check(t, "beyond what is there", read(r, k, 0).p == "")
				wantFailed(t, "beyond what is there", r)
			}
		}
	}
	r := Over([]byte{0, 0, 2, 7, 8})
	check(t, "of no bytes", len(r.Bytes()) == 0 && r.Err() == api.OK && r.Text() == "" && r.Err() == api.OK)
	check(t, "behind them", bytes.Equal(r.Bytes(), []byte{7, 8}) && r.Done() == api.OK)
}

// TestLenRead: P6.3: a number that is most, one more, most 0, most below 0.
func TestLenRead(t *testing.T) {
	mosts := []int{math.MinInt, -300, -2, -1, 0, 1, 2, 4, 5, 6, 126, 127, 128, 129, 1 << 31, math.MaxInt - 1, math.MaxInt}
	for _, most := range mosts {
		for _, v := range edgeNumbers() {
			wantWords(t, wantUint(v), kLen, most)
		}
		if most < 0 {
			continue
		}
		wantWords(t, wantUint(uint64(most)), kLen, most)
		wantWords(t, wantUint(uint64(most)+1), kLen, most)
		check(t, "most", Over(wantUint(uint64(most))).Len(most) == most)
		r := Over(wantUint(uint64(most) + 1))
		check(t, "one more", r.Len(most) == 0)
		wantFailed(t, "one more", r)
	}
	r := Over([]byte{0})
	check(t, "most 0", r.Len(0) == 0 && r.Done() == api.OK)
	r = Over([]byte{0})
	check(t, "most below 0", r.Len(-1) == 0)
	wantFailed(t, "most below 0", r)
}

// TestNoBytes: P6.2, P6.3: a reader over no bytes has not failed, and nothing is left; each call fails there.
func TestNoBytes(t *testing.T) {
	for _, b := range [][]byte{nil, {}, ones[:0]} {
		wantState(t, "over no bytes", Over(b), api.OK, api.OK)
		wantAll(t, b)
		for k := range kinds {
			r := Over(b)
			check(t, "tells nothing", read(r, k, 5) == value{kind: k, most: 5})
			wantFailed(t, "over no bytes", r)
		}
	}
}

// TestFailedStays: P6.2: whichever call it failed at, it tells nothing at any call from then on, whatever stands behind; each call may fail there first.
func TestFailedStays(t *testing.T) {
	good := []byte{1, 1, 1, 1, 1, 1, 1, 1}
	for _, bad := range [][]byte{{128, 0}, {255, 255, 255, 255, 255, 255, 255, 255, 255, 2}, {129, 128, 0}} {
		for first := range kinds {
			for second := range kinds {
				r := Over(slices.Concat([]byte{1}, bad, good))
				check(t, "ahead", r.Uint() == 1 && r.Err() == api.OK)
				check(t, "where it fails", read(r, first, 9) == value{kind: first, most: 9})
				check(t, "behind", read(r, second, 9) == value{kind: second, most: 9})
				wantFailed(t, "behind", r)
			}
		}
	}
	fails := []func(r *Reader){
		func(r *Reader) { r.Bool() },
		func(r *Reader) { r.Text() },
		func(r *Reader) { r.Bytes() },
		func(r *Reader) { r.Len(8) },
		func(r *Reader) { r.Len(-1) },
		func(r *Reader) { r.Len(math.MinInt) },
	}
	for _, fail := range fails {
		r := Over(append([]byte{9}, good...))
		fail(r)
		wantFailed(t, "9, and fewer behind", r)
		fail(r)
		wantFailed(t, "once more", r)
	}
}

// TestDoneChangesNothing: P6.3: nor does Err: at each place of a script, however often they are asked.
func TestDoneChangesNothing(t *testing.T) {
	r := rand.New(rand.NewSource(4))
	for range 200 {
		script := someValues(r, 1+r.Intn(8))
		from := Over(written(script...))
		for _, v := range script {
			for range r.Intn(4) {
				wantState(t, "ahead of a value", from, api.OK, api.ErrCode)
			}
			if got := read(from, v.kind, v.most); got != v {
				t.Errorf("%v, want %v", got, v)
			}
		}
		for range 3 {
			wantState(t, "at the end", from, api.OK, api.OK)
		}
		check(t, "beyond the end", from.Uint() == 0)
		wantFailed(t, "beyond the end", from)
	}
}

// TestReadersApart: P6.2: nothing is kept between readers.
func TestReadersApart(t *testing.T) {
	b := []byte{1, 2, 3}
	first, second := Over(b), Over(b)
	check(t, "first", first.Uint() == 1 && first.Uint() == 2)
	check(t, "second", second.Uint() == 1)
	check(t, "it fails", first.Text() == "" && first.Err() == api.ErrCode)
	check(t, "the other one goes on", second.Uint() == 2 && second.Uint() == 3 && second.Done() == api.OK)
}

// TestNobodysReader: P6.3, P0.1: a reader that is nil, or that nobody made: nothing is told, at each call; Err and Done: ErrNil, ahead and behind.
func TestNobodysReader(t *testing.T) {
	for _, r := range []*Reader{nil, {}, new(Reader)} {
		for k := range kinds {
			for _, most := range []int{math.MinInt, -1, 0, 5, math.MaxInt} {
				wantState(t, "nobody's", r, api.ErrNil, api.ErrNil)
				check(t, "tells nothing", read(r, k, most) == value{kind: k, most: most})
			}
		}
		check(t, "Bytes", r.Bytes() == nil)
		wantState(t, "nobody's", r, api.ErrNil, api.ErrNil)
	}
}
