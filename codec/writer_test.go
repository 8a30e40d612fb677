package codec

import (
	"bytes"
	"math"
	"math/rand"
	"strings"
	"testing"
)

// ones is the form of 2^64 - 1.
var ones = []byte{255, 255, 255, 255, 255, 255, 255, 255, 255, 1}

// wantWritten fails, if the values are written otherwise.
func wantWritten(t *testing.T, want []byte, l ...value) {
	t.Helper()
	if got := written(l...); !bytes.Equal(got, want) {
		t.Errorf("%v: %v, want %v", l, got, want)
	}
}

// TestExamplesWritten: the chapter's first table (P6.1).
func TestExamplesWritten(t *testing.T) {
	for v, want := range map[uint64][]byte{0: {0}, 127: {127}, 128: {128, 1}, 300: {172, 2}, math.MaxUint64: ones} {
		wantWritten(t, want, value{kind: kUint, u: v})
	}
	for v, want := range map[int64][]byte{0: {0}, -1: {1}, 1: {2}, -2: {3}, math.MinInt64: ones} {
		wantWritten(t, want, value{kind: kInt, i: v})
	}
	wantWritten(t, []byte{2, 97, 98}, value{kind: kText, p: "ab"})
	wantWritten(t, []byte{1}, value{kind: kBool, b: true})
	wantWritten(t, []byte{0}, value{kind: kLen, n: -5})
}

// TestUintGrows: P6.1: each number at which one byte more is taken, byte by byte.
func TestUintGrows(t *testing.T) {
	for size := 1; size <= 9; size++ {
		last := bytes.Repeat([]byte{255}, size)
		last[size-1] = 127
		first := append(bytes.Repeat([]byte{128}, size), 1)
		grows := uint64(1) << (7 * size)
		wantWritten(t, last, value{kind: kUint, u: grows - 1})
		wantWritten(t, first, value{kind: kUint, u: grows})
	}
	check(t, "ten bytes", len(written(value{kind: kUint, u: math.MaxUint64})) == 10)
}

// TestIntGrows: P6.1: the same of signed numbers: half as far on each side of 0.
func TestIntGrows(t *testing.T) {
	for size := 1; size <= 9; size++ {
		half := int64(1) << (7*size - 1)
		for v, want := range map[int64]int{half - 1: size, half: size + 1, -half: size, -half - 1: size + 1} {
			if got := len(written(value{kind: kInt, i: v})); got != want {
				t.Errorf("%d: %d bytes, want %d", v, got, want)
			}
		}
	}
	greatest := append([]byte{254}, ones[1:]...)
	wantWritten(t, greatest, value{kind: kInt, i: math.MaxInt64})
	wantWritten(t, ones, value{kind: kInt, i: math.MinInt64})
}

// TestFormsWords: P6.1, by the words: each edge, and numbers that are drawn.
func TestFormsWords(t *testing.T) {
	r := rand.New(rand.NewSource(1))
	numbers, signed := edgeNumbers(), edgeSigned()
	for range 3000 {
		v := someNumber(r)
		numbers, signed = append(numbers, v), append(signed, int64(v), -int64(v))
	}
	for _, v := range numbers {
		wantWritten(t, wantUint(v), value{kind: kUint, u: v})
	}
	for _, v := range signed {
		wantWritten(t, wantForm(value{kind: kInt, i: v}), value{kind: kInt, i: v})
	}
}

// TestBoolBytes: P6.1.
func TestBoolBytes(t *testing.T) {
	wantWritten(t, []byte{1, 0, 0, 1}, value{kind: kBool, b: true}, value{kind: kBool}, value{kind: kBool}, value{kind: kBool, b: true})
}

// TestLenForms: P6.1: a number below 0 is told as 0.
func TestLenForms(t *testing.T) {
	for _, n := range []int{0, -1, -2, -5, -128, math.MinInt, math.MinInt + 1, -math.MaxInt} {
		wantWritten(t, []byte{0}, value{kind: kLen, n: n})
	}
	for _, n := range []int{1, 127, 128, 300, 1 << 20, math.MaxInt - 1, math.MaxInt} {
		wantWritten(t, wantUint(uint64(n)), value{kind: kLen, n: n})
	}
}

// TestBytesAndTexts: P6.1: of no bytes, of lengths at which their number grows, of bytes that are no runes.
func TestBytesAndTexts(t *testing.T) {
	for _, n := range []int{0, 1, 2, 126, 127, 128, 129, 300, 16383, 16384, 100000} {
		for _, p := range []string{strings.Repeat("x", n), strings.Repeat("\xff", n), strings.Repeat("\x00", n), strings.Repeat("\xe4", n)} {
			want := append(wantUint(uint64(n)), p...)
			check(t, "Bytes", bytes.Equal(written(value{kind: kBytes, p: p}), want))
			check(t, "Text", bytes.Equal(written(value{kind: kText, p: p}), want))
		}
	}
	wantWritten(t, []byte{2, 195, 164}, value{kind: kText, p: "ä"})
	w := New()
	w.Bytes(nil)
	w.Bytes([]byte{})
	w.Text("")
	check(t, "of no bytes", bytes.Equal(w.Out(), []byte{0, 0, 0}))
}

// TestBehind: P6.1: each form is put behind what the writer has; Out tells all of it, and changes nothing.
func TestBehind(t *testing.T) {
	r := rand.New(rand.NewSource(2))
	for range 200 {
		w, want := New(), []byte{}
		check(t, "a writer without bytes", len(w.Out()) == 0)
		for _, v := range someValues(r, r.Intn(30)) {
			v.write(w)
			want = append(want, wantForm(v)...)
			for range r.Intn(3) {
				check(t, "Out", bytes.Equal(w.Out(), want))
			}
		}
		check(t, "Out at last", bytes.Equal(w.Out(), want))
	}
}

// TestWritersApart: P6.1: nothing is kept between writers.
func TestWritersApart(t *testing.T) {
	a, b := New(), New()
	a.Uint(1)
	b.Uint(2)
	a.Uint(3)
	check(t, "a", bytes.Equal(a.Out(), []byte{1, 3}))
	check(t, "b", bytes.Equal(b.Out(), []byte{2}))
	check(t, "a new one", len(New().Out()) == 0)
}

// TestNobodysWriter: P6.3, P0.1: a writer that is nil, or that nobody made: nothing is written or told, at each call.
func TestNobodysWriter(t *testing.T) {
	for _, w := range []*Writer{nil, {}, new(Writer)} {
		check(t, "Out ahead", w.Out() == nil)
		w.Uint(7)
		w.Int(-7)
		w.Int(7)
		w.Bool(true)
		w.Bool(false)
		w.Bytes([]byte("ab"))
		w.Bytes(nil)
		w.Text("ab")
		w.Text("")
		w.Len(7)
		w.Len(-7)
		check(t, "Out behind", w.Out() == nil)
	}
}
