package codec

import (
	"bytes"
	"fmt"
	"math"
	"math/big"
	"math/rand"
	"slices"
	"testing"

	"tocsin/api"
)

// kind is which value a step of a script writes or reads.
type kind int

const (
	kUint kind = iota
	kInt
	kBool
	kBytes
	kText
	kLen
	kinds // how many there are
)

// value is one of a script's: of the kind's own field alone; most is what Len is read with.
type value struct {
	kind kind
	u    uint64
	i    int64
	b    bool
	p    string
	n    int
	most int
}

// String keeps what tests print in one readable line.
func (v value) String() string {
	return fmt.Sprintf("{kind %d: %d %d %v %.40q (%d bytes) %d of %d}", v.kind, v.u, v.i, v.b, v.p, len(v.p), v.n, v.most)
}

// bigOf is 128^i times n.
func bigOf(n int64, i int) *big.Int {
	power := new(big.Int).Exp(big.NewInt(128), big.NewInt(int64(i)), nil)
	return power.Mul(power, big.NewInt(n))
}

// wantNumber is a number in bytes by the chapter's words: digits to the base 128, the lowest first, 128 added to each but the last.
func wantNumber(v *big.Int) []byte {
	b := []byte{}
	for digit := new(big.Int); ; {
		v, digit = new(big.Int).DivMod(v, big.NewInt(128), digit)
		if v.Sign() == 0 {
			return append(b, byte(digit.Int64()))
		}
		b = append(b, byte(digit.Int64()+128))
	}
}

func wantUint(v uint64) []byte { return wantNumber(new(big.Int).SetUint64(v)) }

// wantSigned: the number 2 x, if x is 0 or above, else -2 x - 1.
func wantSigned(x int64) *big.Int {
	v := new(big.Int).Mul(big.NewInt(x), big.NewInt(2))
	if x < 0 {
		v.Neg(v).Sub(v, big.NewInt(1))
	}
	return v
}

// wantForm is the value's form by the chapter's words.
func wantForm(v value) []byte {
	switch v.kind {
	case kUint:
		return wantUint(v.u)
	case kInt:
		return wantNumber(wantSigned(v.i))
	case kBool:
		if v.b {
			return []byte{1}
		}
		return []byte{0}
	case kLen:
		return wantUint(uint64(max(v.n, 0)))
	}
	return append(wantUint(uint64(len(v.p))), v.p...)
}

// readNumber is the number that the bytes begin with, and how many bytes it has (0: there is none), by the chapter's words.
func readNumber(b []byte) (uint64, int) {
	last := slices.IndexFunc(b, func(c byte) bool { return c < 128 })
	if last < 0 || last > 0 && b[last] == 0 {
		return 0, 0
	}
	sum := new(big.Int)
	for i, c := range b[:last+1] {
		sum.Add(sum, bigOf(int64(c%128), i))
	}
	if !sum.IsUint64() {
		return 0, 0
	}
	return sum.Uint64(), last + 1
}

// wantRead is the value of the kind that the bytes begin with, and how many bytes its form has (0: there is none).
func wantRead(b []byte, k kind, most int) (value, int) {
	v := value{kind: k, most: most}
	n, used := readNumber(b)
	if used == 0 {
		return v, 0
	}
	switch k {
	case kUint:
		v.u = n
	case kInt:
		v.i = int64(n >> 1) // found, not worked out: of the two that it may be, the one whose number it is
		if wantSigned(v.i).Uint64() != n {
			v.i = -v.i - 1
		}
	case kBool:
		if b[0] > 1 {
			return v, 0
		}
		v.b = b[0] == 1
	case kBytes, kText:
		if n > uint64(len(b)-used) {
			return v, 0
		}
		v.p = string(b[used:][:n])
		used += int(n)
	case kLen:
		if most < 0 || n > uint64(most) {
			return v, 0
		}
		v.n = int(n)
	}
	return v, used
}

// write has the value written.
func (v value) write(w *Writer) {
	switch v.kind {
	case kUint:
		w.Uint(v.u)
	case kInt:
		w.Int(v.i)
	case kBool:
		w.Bool(v.b)
	case kBytes:
		w.Bytes([]byte(v.p))
	case kText:
		w.Text(v.p)
	case kLen:
		w.Len(v.n)
	}
}

// read is what the reader tells of that kind.
func read(r *Reader, k kind, most int) value {
	v := value{kind: k, most: most}
	switch k {
	case kUint:
		v.u = r.Uint()
	case kInt:
		v.i = r.Int()
	case kBool:
		v.b = r.Bool()
	case kBytes:
		v.p = string(r.Bytes())
	case kText:
		v.p = r.Text()
	case kLen:
		v.n = r.Len(most)
	}
	return v
}

// written is what a new writer has behind these values.
func written(l ...value) []byte {
	w := New()
	for _, v := range l {
		v.write(w)
	}
	return w.Out()
}

// edgeNumbers: where a form takes one byte more, and beside them; around the ends of the integer kinds.
func edgeNumbers() []uint64 {
	l := []uint64{0, 1, 2, 300, math.MaxInt64, math.MaxInt64 + 1, math.MaxUint64 - 1, math.MaxUint64}
	for bits := 1; bits < 64; bits++ {
		l = append(l, 1<<bits-2, 1<<bits-1, 1<<bits, 1<<bits+1)
	}
	return l
}

// edgeSigned: the same of signed numbers, on both sides of 0.
func edgeSigned() []int64 {
	l := []int64{math.MinInt64, math.MinInt64 + 1, math.MaxInt64 - 1, math.MaxInt64}
	for _, v := range edgeNumbers() {
		l = append(l, int64(v), -int64(v), int64(v>>1), -int64(v>>1)-1)
	}
	return l
}

// someNumber draws one of any number of bits.
func someNumber(r *rand.Rand) uint64 { return r.Uint64() >> r.Intn(64) }

// someValue draws one of any kind; Len may be read with just its number, or one or two more.
func someValue(r *rand.Rand) value {
	v := value{kind: kind(r.Intn(int(kinds)))}
	switch v.kind {
	case kUint:
		v.u = someNumber(r)
	case kInt:
		v.i = int64(someNumber(r)) ^ -int64(r.Intn(2))
	case kBool:
		v.b = r.Intn(2) == 0
	case kLen:
		v.n = int(someNumber(r) >> 2)
		v.most = v.n + r.Intn(3)
	default:
		sizes := []int{0, 0, 1, 2, 3, 9, 40, 127, 128, 300}
		p := make([]byte, sizes[r.Intn(len(sizes))])
		r.Read(p)
		v.p = string(p)
	}
	return v
}

// someValues draws a script of n values.
func someValues(r *rand.Rand, n int) []value {
	l := make([]value, n)
	for i := range l {
		l[i] = someValue(r)
	}
	return l
}

func check(t *testing.T, what string, ok bool) {
	t.Helper()
	if !ok {
		t.Errorf("%s", what)
	}
}

// wantState fails, if the reader tells another end than these.
func wantState(t *testing.T, what string, r *Reader, err, done api.Errno) {
	t.Helper()
	if e, d := r.Err(), r.Done(); e != err || d != done {
		t.Errorf("%s: Err %d, Done %d, want %d, %d", what, e, d, err, done)
	}
}

// wantRest fails, if the reader tells other bytes than these to be left. It reads them away.
func wantRest(t *testing.T, what string, r *Reader, rest []byte) {
	t.Helper()
	for len(rest) > 0 {
		wantState(t, what, r, api.OK, api.ErrCode)
		n, used := readNumber(rest)
		if got := r.Uint(); got != n {
			t.Errorf("%s: %d, want %d", what, got, n)
		}
		if used == 0 {
			wantState(t, what, r, api.ErrCode, api.ErrCode)
			return
		}
		rest = rest[used:]
	}
	wantState(t, what, r, api.OK, api.OK)
}

// wantFailed fails, unless the reader has failed, and tells nothing at any of its calls.
func wantFailed(t *testing.T, what string, r *Reader) {
	t.Helper()
	for k := range kinds {
		wantState(t, what, r, api.ErrCode, api.ErrCode)
		if v := read(r, k, 100); v != (value{kind: k, most: 100}) {
			t.Errorf("%s: behind it %v", what, v)
		}
	}
	wantState(t, what, r, api.ErrCode, api.ErrCode)
}

// wantWords holds one call, over these bytes, against the words.
func wantWords(t *testing.T, b []byte, k kind, most int) {
	t.Helper()
	what := fmt.Sprintf("kind %d, most %d, over %v", k, most, b[:min(len(b), 20)])
	want, used := wantRead(b, k, most)
	r := Over(b)
	if got := read(r, k, most); got != want {
		t.Errorf("%s: %v, want %v", what, got, want)
	}
	if used == 0 {
		wantFailed(t, what, r)
		return
	}
	wantRest(t, what, r, b[used:])
}

// wantScript reads the bytes by the script's kinds, against the words; what is read to the end must be written as just these bytes.
func wantScript(t *testing.T, b []byte, script []value) {
	t.Helper()
	r, rest := Over(b), b
	var told []value
	for _, step := range script {
		want, used := wantRead(rest, step.kind, step.most)
		got := read(r, step.kind, step.most)
		if got != want {
			t.Errorf("%v of %v: %v, want %v", rest, b, got, want)
		}
		if used == 0 {
			wantFailed(t, fmt.Sprint(b), r)
			return
		}
		rest, told = rest[used:], append(told, got)
	}
	if done := r.Done(); (done == api.OK) != (len(rest) == 0) {
		t.Errorf("%v, with %v left: Done %d", b, rest, done)
	}
	if len(rest) == 0 && !bytes.Equal(written(told...), b) {
		t.Errorf("%v is written as %v", b, written(told...))
	}
}
