package frame

import (
	"bytes"
	"math/rand"
	"slices"
	"strconv"
	"testing"

	"tocsin/api"
	"tocsin/crc"
)

// edges: lengths of records at which a head's form changes, and beside them.
var edges = []int{0, 1, 2, 3, 4, 5, 126, 127, 128, 129, 255, 256, 257, 300, 16382, 16383, 16384, 16385, 32768, most - 1, most}

// TestExamples: the chapter's examples (P4.1, P4.2).
func TestExamples(t *testing.T) {
	sumOf := func(b ...byte) []byte {
		v := crc.Sum(b)
		return append(b, byte(v), byte(v>>8), byte(v>>16), byte(v>>24))
	}
	b, e := Encode(nil)
	check(t, "Encode of nothing", bytes.Equal(b, sumOf(0)) && e == api.OK)
	a, e := Encode([]byte("a"))
	check(t, "Encode of a", bytes.Equal(a, sumOf(1, 97)) && e == api.OK)
	b, e = Encode(make([]byte, 300))
	check(t, "Encode of 300 bytes", bytes.HasPrefix(b, []byte{172, 2, 0}) && len(b) == 306 && e == api.OK)
	wantOne(t, "a", a, []byte("a"), 6)
	wantOne(t, "a and anything", append(slices.Clone(a), 1, 2, 3), []byte("a"), 6)
	wantNone(t, "nothing", nil)
	wantNone(t, "five noughts", make([]byte, 5))
	wantNone(t, "128 0", []byte{128, 0})
	wantNone(t, "a without its last byte", a[:5])
}

// TestEncodeBytes: P4.1, byte by byte, with sums that stand here as numbers.
func TestEncodeBytes(t *testing.T) {
	for p, want := range map[string][]byte{
		"":          {0, 0x51, 0x53, 0x7d, 0x52},
		"a":         {1, 97, 0xc4, 0xff, 0x6e, 0x71},
		"123456789": append([]byte("\x09123456789"), 0xe0, 0x9a, 0xb2, 0x36),
	} {
		if got, e := Encode([]byte(p)); !bytes.Equal(got, want) || e != api.OK {
			t.Errorf("%q: %x %v, want %x", p, got, e, want)
		}
	}
}

// TestEncodeHeads: P4.1: the lengths, in bytes, where they become longer.
func TestEncodeHeads(t *testing.T) {
	for n, head := range map[int][]byte{
		0: {0}, 1: {1}, 127: {127}, 128: {128, 1}, 129: {129, 1}, 255: {255, 1}, 256: {128, 2}, 300: {172, 2},
		16383: {255, 127}, 16384: {128, 128, 1}, 16385: {129, 128, 1}, most - 1: {255, 255, 3}, most: {128, 128, 4},
	} {
		p := bytes.Repeat([]byte{9}, n)
		b, e := Encode(p)
		if e != api.OK || len(b) != len(head)+n+4 || !bytes.HasPrefix(b, append(head, p...)) {
			t.Errorf("%d: %v, %d bytes, %v", n, short(b), len(b), e)
		}
	}
}

// TestEncodeWords: P4.1: all lengths up to 700, and the edges.
func TestEncodeWords(t *testing.T) {
	r := rand.New(rand.NewSource(1))
	sizes := slices.Clone(edges)
	for n := range 700 {
		sizes = append(sizes, n)
	}
	for _, n := range sizes {
		p := someBytes(r, n)
		if b, e := Encode(p); e != api.OK || !bytes.Equal(b, wantFrame(p)) {
			t.Errorf("%d bytes: %v %v", n, short(b), e)
		}
	}
}

// TestEncodeLong: P4.1: MaxFrame bytes may be, one more may not; nothing is told beside the error (P0.2).
func TestEncodeLong(t *testing.T) {
	if b, e := Encode(make([]byte, most)); len(b) != most+7 || e != api.OK {
		t.Errorf("MaxFrame: %d bytes, %v", len(b), e)
	}
	for _, n := range []int{most + 1, most + 2, 1<<17 - 1, 1 << 17, 1<<17 + 5, 1 << 20, 1<<21 + 1} {
		if b, e := Encode(make([]byte, n)); b != nil || e != api.ErrLong {
			t.Errorf("%d: %d bytes, %v", n, len(b), e)
		}
	}
}

// TestNextEdges: P4.2: records of each length that is an edge, alone, with anything behind them, and cut short.
func TestNextEdges(t *testing.T) {
	r := rand.New(rand.NewSource(2))
	for _, n := range edges {
		p := someBytes(r, n)
		f := wantFrame(p)
		what := strconv.Itoa(n) + " bytes"
		for _, behind := range [][]byte{nil, {0}, {255}, make([]byte, 9), wantFrame(nil), someBytes(r, 50), f} {
			wantOne(t, what, slices.Concat(f, behind), p, len(f))
		}
		wantNone(t, what+", without the last one", f[:len(f)-1])
		wantNone(t, what+", the frame but for the head", f[len(wantHead(n)):])
	}
}

// TestNoughtsBehindLength: P4.2: a length has one form: with noughts behind it, it is none, even if the sum is right.
func TestNoughtsBehindLength(t *testing.T) {
	for _, n := range []int{0, 1, 2, 5, 127, 128, 300, 16383, 16384, most} {
		p := bytes.Repeat([]byte{'n'}, n)
		long := wantHead(n)
		for range 14 {
			long[len(long)-1] |= 128
			long = append(long, 0)
			wantNone(t, strconv.Itoa(n)+" in "+strconv.Itoa(len(long))+" bytes", withSum(long, p))
		}
	}
	for _, b := range [][]byte{{128, 0}, {128, 128, 0}, {129, 0}, {255, 0}, {128, 128, 128, 0}} {
		wantNone(t, "a length and nothing", b)
		wantNone(t, "a length and its sum", withSum(b))
	}
}

// TestLengthDoesNotEnd: P4.2: each byte says that another one follows.
func TestLengthDoesNotEnd(t *testing.T) {
	for _, c := range []byte{128, 129, 172, 255} {
		for _, n := range []int{1, 2, 3, 4, 5, 6, 9, 10, 11, 12, 40, 1 << 16, 1 << 21} {
			b := bytes.Repeat([]byte{c}, n)
			wantNone(t, strconv.Itoa(n)+" bytes that go on", b)
			if n < 50 {
				wantNone(t, strconv.Itoa(n)+" bytes that go on, with their sum", withSum(b))
			}
		}
	}
}

// TestLengthOfManyBytes: P4.2: a number whose lower bits are a length that would fit, with one far above them.
func TestLengthOfManyBytes(t *testing.T) {
	for _, n := range []int{0, 1, 5, 127, 128, 300, 16384, most} {
		p := bytes.Repeat([]byte{'w'}, n)
		for _, top := range []byte{1, 2, 4, 8, 16, 64, 127} {
			for between := range 16 {
				head := wantHead(n)
				head[len(head)-1] |= 128
				head = append(head, bytes.Repeat([]byte{128}, between)...)
				wantNone(t, strconv.Itoa(n)+" and "+strconv.Itoa(between)+" bytes between", withSum(append(head, top), p))
			}
		}
	}
	for _, high := range []byte{1, 2, 3, 15, 127} {
		wantNone(t, "all ones", append(bytes.Repeat([]byte{255}, 9), high))
		wantNone(t, "all ones, and bytes", append(append(bytes.Repeat([]byte{255}, 4), high), make([]byte, 100)...))
	}
}

// TestLengthBeyond: P4.2: beyond what is there, and beyond MaxFrame, though the sum is right.
func TestLengthBeyond(t *testing.T) {
	for _, n := range []int{0, 1, 2, 126, 127, 128, 299} {
		for more := 1; more < 8; more++ {
			b := withSum(wantHead(n+more), make([]byte, n))
			wantNone(t, strconv.Itoa(more)+" more than is there", b)
		}
		for _, far := range []int{1000, most, most + 1, 1 << 31, 1<<62 - 1} {
			wantNone(t, "far more than is there", withSum(wantHead(far), make([]byte, n)))
		}
	}
	for _, n := range []int{most + 1, most + 2, 1 << 17, 1<<17 + 1, 1<<21 - 1, 1 << 21} {
		wantNone(t, strconv.Itoa(n)+", above MaxFrame", wantFrame(make([]byte, n)))
	}
	wantOne(t, "MaxFrame", wantFrame(make([]byte, most)), make([]byte, most), most+7)
}

// TestLengthBelow: P4.2: fewer than are there: the sum would have to stand behind these.
func TestLengthBelow(t *testing.T) {
	for n := 1; n < 140; n++ {
		for less := range n {
			wantNone(t, "a length below", withSum(wantHead(less), bytes.Repeat([]byte{7}, n)))
		}
	}
}

// TestSumOtherwise: P4.2: sums that are near, but not the one of length and record, lowest byte first.
func TestSumOtherwise(t *testing.T) {
	for _, p := range [][]byte{{}, []byte("a"), []byte("123456789"), make([]byte, 200)} {
		b := slices.Concat(wantHead(len(p)), p)
		right := wantFrame(p)[len(b):]
		turned := slices.Clone(right)
		slices.Reverse(turned)
		inverted := []byte{^right[0], ^right[1], ^right[2], ^right[3]}
		recordAlone := withSum(p)[len(p):]
		for i, other := range [][]byte{turned, inverted, recordAlone, make([]byte, 4), {255, 255, 255, 255}, {right[1], right[0], right[2], right[3]}} {
			wantNone(t, "sum "+strconv.Itoa(i), slices.Concat(b, other))
		}
		for bit := range 32 {
			other := slices.Clone(right)
			other[bit/8] ^= 1 << (bit % 8)
			wantNone(t, "another bit "+strconv.Itoa(bit), slices.Concat(b, other))
		}
	}
}

// pieces that rows are made of: frames, and bytes that come near to one.
func pieces() [][]byte {
	return [][]byte{
		wantFrame(nil), wantFrame([]byte("a")), wantFrame(wantFrame(nil)), wantFrame(bytes.Repeat([]byte{128}, 130)),
		{0}, {1}, {128}, {5, 0, 0}, wantFrame([]byte("a"))[:5], withSum([]byte{129, 0, 'a'}), wantFrame(nil)[1:],
	}
}

// TestRowsWords: P4.2, P4.3, by the words alone: all rows of up to four pieces.
func TestRowsWords(t *testing.T) {
	rows := [][]byte{nil}
	for range 4 {
		var longer [][]byte
		for _, b := range rows {
			for _, piece := range pieces() {
				longer = append(longer, slices.Concat(b, piece))
			}
		}
		for _, b := range longer {
			wantWords(t, "a row", b)
		}
		rows = longer
	}
}

// TestDrawnWords: P4.2, P4.3, by the words: rows of which some bytes are changed, put in or taken away.
func TestDrawnWords(t *testing.T) {
	r := rand.New(rand.NewSource(3))
	for range 3000 {
		b := append(row(someRecords(r, r.Intn(5))...), someBytes(r, r.Intn(6))...)
		for range r.Intn(3) {
			if i := r.Intn(len(b) + 1); r.Intn(2) == 0 {
				b = slices.Insert(b, i, byte(r.Intn(256)))
			} else {
				b = slices.Delete(b, i, min(len(b), i+1))
			}
		}
		wantWords(t, "drawn", b)
	}
}

// TestLeftEarly: P4.3: behind each number of records, and none is told any more.
func TestLeftEarly(t *testing.T) {
	records := [][]byte{[]byte("a"), {}, []byte("bcd"), make([]byte, 128), {}}
	b := append(row(records...), 1, 2)
	all := All(b)
	for stop := 1; stop <= len(records)+1; stop++ {
		var got [][]byte
		for p := range all {
			got = append(got, p)
			if len(got) == stop {
				break
			}
		}
		if !slices.EqualFunc(got, records[:min(stop, len(records))], bytes.Equal) {
			t.Errorf("left behind %d: %v", stop, got)
		}
	}
	asked := 0
	all(func([]byte) bool { asked++; return false })
	check(t, "asked once more behind a no", asked == 1)
}

// TestGoneOverAgain: P4.3: the same function tells the same, again and again, within itself too.
func TestGoneOverAgain(t *testing.T) {
	records := [][]byte{[]byte("x"), {}, []byte("yz")}
	all := All(append(row(records...), 0, 0))
	for range 3 {
		check(t, "again", slices.EqualFunc(slices.Collect(all), records, bytes.Equal))
	}
	rounds := 0
	for range all {
		check(t, "within", slices.EqualFunc(slices.Collect(all), records, bytes.Equal))
		rounds++
	}
	check(t, "all rounds", rounds == len(records))
}

// TestNothing: P4.2, P4.3, P0.4: bytes that are nil are like ones that are none.
func TestNothing(t *testing.T) {
	for _, b := range [][]byte{nil, {}, make([]byte, 0, 9)} {
		wantNone(t, "nothing", b)
		got, e := Encode(b)
		check(t, "Encode of nothing", bytes.Equal(got, wantFrame(nil)) && e == api.OK)
	}
	wantOne(t, "a record of no bytes", wantFrame(nil), nil, 5)
	wantRow(t, "records of no bytes", row(nil, nil, nil), [][]byte{{}, {}, {}}, 15)
}

// TestThereAndBack: P4.4: rows of the records' own frames, with anything behind them that begins with no frame.
func TestThereAndBack(t *testing.T) {
	r := rand.New(rand.NewSource(4))
	for range 400 {
		records := someRecords(r, r.Intn(9))
		var b []byte
		for _, p := range records {
			f, e := Encode(p)
			check(t, "Encode", e == api.OK)
			b = append(b, f...)
		}
		whole := len(b)
		for _, behind := range [][]byte{nil, {0}, {1}, {128}, {255, 255, 255, 255, 1}, make([]byte, 30), someBytes(r, 20), wantFrame([]byte("torn"))[:7], wantFrame(make([]byte, most+1))} {
			if _, _, e := wantNext(behind); e == api.OK {
				continue
			}
			wantRow(t, "there and back", slices.Concat(b, behind), records, whole)
		}
		at := 0
		for _, p := range records {
			_, used, _ := wantNext(b[at:])
			wantOne(t, "one by one", b[at:], p, used)
			at += used
		}
	}
}

// TestThereAndBackLong: P4.4: the longest records, and frames as records of frames.
func TestThereAndBackLong(t *testing.T) {
	r := rand.New(rand.NewSource(5))
	records := [][]byte{someBytes(r, most), {}, someBytes(r, most-1), someBytes(r, 16383), someBytes(r, 16384), someBytes(r, 127), someBytes(r, 128), someBytes(r, most)}
	b := row(records...)
	wantRow(t, "long ones", b, records, len(b))
	nested := []byte{}
	for range 50 {
		nested = wantFrame(nested)
	}
	wantOne(t, "a frame of frames", nested, nested[len(wantHead(len(nested)-6)):len(nested)-4], len(nested))
	many := bytes.Repeat(wantFrame([]byte{7}), 20000)
	count := 0
	for p := range All(many) {
		check(t, "one of many", len(p) == 1 && p[0] == 7)
		count++
	}
	check(t, "many", count == 20000 && Whole(many) == len(many))
}

// TestBeginnings: P4.5: no proper beginning of a frame is one.
func TestBeginnings(t *testing.T) {
	r := rand.New(rand.NewSource(6))
	for _, n := range []int{0, 1, 2, 4, 5, 60, 127, 128, 300} {
		f := wantFrame(someBytes(r, n))
		for i := range f {
			wantNone(t, strconv.Itoa(i)+" bytes of the frame of "+strconv.Itoa(n), f[:i])
		}
	}
	for _, n := range []int{16383, 16384, most} {
		f := wantFrame(someBytes(r, n))
		for _, i := range []int{0, 1, 2, 3, 4, 5, 7, n / 2, n - 1, n, n + 1, n + 2, n + 3, n + 4, n + 5, len(f) - 1} {
			wantNone(t, strconv.Itoa(i)+" bytes of the frame of "+strconv.Itoa(n), f[:i])
		}
	}
}

// TestOneByteOtherwise: P4.5: at each place, each other byte; alone, and with frames behind it.
func TestOneByteOtherwise(t *testing.T) {
	for _, p := range []string{"", "a", "\x00", "ab", "123456789", "\xff\xff\xff\xff", "\x00\x00\x00\x00\x00\x00\x00\x00", string(bytes.Repeat([]byte("k"), 128))} {
		f := wantFrame([]byte(p))
		behind := slices.Concat(f, wantFrame(nil), wantFrame([]byte("behind")))
		for i := range f {
			for x := 1; x < 256; x++ {
				for _, b := range [][]byte{slices.Clone(f), slices.Clone(behind)} {
					b[i] ^= byte(x)
					if _, _, e := Next(b); e != api.ErrFrame || Whole(b) != 0 {
						t.Fatalf("%q, at %d by %d: a frame", p, i, x)
					}
				}
			}
		}
	}
}

// TestOneByteOtherwiseLong: P4.5: at each place of a long frame, and at drawn ones of the longest.
func TestOneByteOtherwiseLong(t *testing.T) {
	r := rand.New(rand.NewSource(7))
	f := wantFrame(someBytes(r, 2000))
	for i := range f {
		b := slices.Clone(f)
		b[i] ^= byte(1 + r.Intn(255))
		wantNone(t, "at "+strconv.Itoa(i), b)
	}
	f = wantFrame(someBytes(r, most))
	for _, i := range []int{0, 1, 2, 3, most / 2, most + 2, most + 3, most + 6, r.Intn(len(f)), r.Intn(len(f))} {
		b := slices.Clone(f)
		b[i] ^= byte(1 + r.Intn(255))
		wantNone(t, "of the longest at "+strconv.Itoa(i), b)
	}
}

// TestOneByteOtherwiseWithin: P4.5, and the words of P4.2: a record may be made so that another length finds a shorter frame at the beginning; all of the bytes are no frame even then.
func TestOneByteOtherwiseWithin(t *testing.T) {
	b := wantFrame(wantFrame(nil)[1:])
	b[0] = 0
	wantOne(t, "a frame within", b, nil, 5)
	wantRow(t, "a frame within", b, [][]byte{{}}, 5)
	check(t, "all of it isn't a frame", Whole(b) < len(b))
}

// TestRowCut: P4.5: a row of frames, cut at each place: just those are told that are whole.
func TestRowCut(t *testing.T) {
	r := rand.New(rand.NewSource(8))
	for range 12 {
		records := someRecords(r, 6)
		b := row(records...)
		whole, count, next := 0, 0, len(wantFrame(records[0]))
		for cut := range len(b) + 1 {
			if cut == next {
				whole, count = next, count+1
				if count < len(records) {
					next += len(wantFrame(records[count]))
				}
			}
			wantRow(t, "cut at "+strconv.Itoa(cut), b[:cut], records[:count], whole)
		}
		check(t, "all are whole at the end", count == len(records))
	}
}

// TestRowBroken: P4.3, P4.5: behind a frame of which one byte is otherwise none is told, though whole ones follow.
func TestRowBroken(t *testing.T) {
	records := [][]byte{[]byte("first"), {}, []byte("third"), []byte("fourth")}
	b := row(records...)
	at := 0
	for i, p := range records {
		end := at + len(wantFrame(p))
		for place := at; place < end; place++ {
			broken := slices.Clone(b)
			broken[place] ^= 64
			wantRow(t, "broken at "+strconv.Itoa(place), broken, records[:i], at)
		}
		at = end
	}
}

// TestNoughts: P4.5: noughts are no frame, however many; nor behind a row of frames.
func TestNoughts(t *testing.T) {
	records := [][]byte{{0}, {}, {0, 0, 0, 0}}
	b := row(records...)
	for _, n := range []int{1, 2, 3, 4, 5, 6, 7, 8, 9, 10, 100, 4096, 1 << 17} {
		noughts := make([]byte, n)
		wantNone(t, strconv.Itoa(n)+" noughts", noughts)
		wantRow(t, strconv.Itoa(n)+" noughts behind", slices.Concat(b, noughts), records, len(b))
		wantRow(t, strconv.Itoa(n)+" noughts and frames behind", slices.Concat(b, noughts, b), records, len(b))
	}
}
