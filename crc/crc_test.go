package crc

import (
	"bytes"
	"hash/crc32"
	"math"
	"math/big"
	"math/bits"
	"math/rand"
	"slices"
	"testing"
)

// divisorPowers: the powers of x in the divisor, as the chapter lists them.
var divisorPowers = []int{32, 28, 27, 26, 25, 23, 22, 20, 19, 18, 14, 13, 11, 10, 9, 8, 6, 0}

// poly is a polynomial whose coefficient of x^i is the bit i: the reference is told by long division, as the chapter's words have it.
type poly = big.Int

func divisorPoly() *poly {
	p := new(poly)
	for _, i := range divisorPowers {
		p.SetBit(p, i, 1)
	}
	return p
}

// left is what is left of p, divided by the divisor.
func left(p *poly) *poly {
	d, r := divisorPoly(), new(poly).Set(p)
	for r.BitLen() > 32 {
		r.Xor(r, new(poly).Lsh(d, uint(r.BitLen()-33)))
	}
	return r
}

// number: its lowest bit is the coefficient of x^31.
func number(p *poly) uint32 {
	var n uint32
	for i := range 32 {
		n |= uint32(p.Bit(31-i)) << i
	}
	return n
}

func polyOf(n uint32) *poly {
	p := new(poly)
	for i := range 32 {
		p.SetBit(p, 31-i, uint(n>>i&1))
	}
	return p
}

// wantSum is the sum by the chapter's words.
func wantSum(b []byte) uint32 {
	var coefficients []uint
	for _, x := range b {
		for i := range 8 {
			coefficients = append(coefficients, uint(x>>i&1))
		}
	}
	coefficients = append(coefficients, make([]uint, 32)...)
	for i := range 32 {
		coefficients[i] ^= 1
	}
	p := new(poly)
	for i, x := range coefficients {
		p.SetBit(p, len(coefficients)-1-i, x)
	}
	return ^number(left(p))
}

// wantJoin is two numbers joined over n bytes, by the chapter's words; for n that can be written out.
func wantJoin(a, b uint32, n int) uint32 {
	if n < 0 {
		return 0
	}
	return number(left(new(poly).Lsh(polyOf(a), uint(8*n)))) ^ b
}

func someBytes(r *rand.Rand, n int) []byte {
	b := make([]byte, n)
	r.Read(b)
	return b
}

// numbers: the edges of a number of 32 bits, and ordinary ones.
func numbers() []uint32 {
	l := []uint32{0, math.MaxUint32, 7, 9, 0x82f63b78, 0x48674bc7, 0xe3069283, 0xc1d04330, 0x55555555, 0xaaaaaaaa}
	for i := range 32 {
		l = append(l, 1<<i)
	}
	return l
}

// TestExamples: P2.1 and P2.2, the chapter's table.
func TestExamples(t *testing.T) {
	for text, want := range map[string]uint32{"": 0, "a": 0xc1d04330, "123456789": 0xe3069283} {
		if got := Sum([]byte(text)); got != want {
			t.Errorf("Sum of %q: %x, not %x", text, got, want)
		}
	}
	if got := Of([]byte("12"), nil, []byte("3456789")); got != 0xe3069283 {
		t.Errorf("Of three pieces: %x", got)
	}
	if got := Of(); got != 0 {
		t.Errorf("Of nothing: %x", got)
	}
	if got := Join(Sum([]byte("1234")), Sum([]byte("56789")), 5); got != 0xe3069283 {
		t.Errorf("Join over 5: %x", got)
	}
	if got := Join(7, 9, 0); got != 14 {
		t.Errorf("Join over 0: %x", got)
	}
	if got := Join(7, 9, -1); got != 0 {
		t.Errorf("Join over -1: %x", got)
	}
}

// TestSumWords: P2.1, by the words alone: none, fewer than four bytes, just four, more.
func TestSumWords(t *testing.T) {
	check := func(b []byte) {
		if got, want := Sum(b), wantSum(b); got != want {
			t.Errorf("Sum of %x: %x, not %x", b, got, want)
		}
	}
	check(nil)
	check([]byte{})
	for x := range 256 {
		check([]byte{byte(x)})
		check([]byte{0, byte(x)})
		check([]byte{byte(x), 0xff, 0})
	}
	r := rand.New(rand.NewSource(1))
	for n := range 70 {
		check(someBytes(r, n))
		check(make([]byte, n))
		check(bytes.Repeat([]byte{0xff}, n))
	}
}

// TestSumKnown: P2.1, against the library's sum of the same name.
func TestSumKnown(t *testing.T) {
	r, table := rand.New(rand.NewSource(2)), crc32.MakeTable(crc32.Castagnoli)
	for _, n := range []int{0, 1, 2, 3, 4, 5, 31, 32, 33, 255, 256, 257, 4096, 65535, 65536, 1 << 20} {
		b := someBytes(r, n)
		if got, want := Sum(b), crc32.Checksum(b, table); got != want {
			t.Errorf("Sum of %d bytes: %x, not %x", n, got, want)
		}
	}
}

// TestOf: P2.1: pieces are as one, wherever they are cut, with pieces of no bytes ahead, between and behind.
func TestOf(t *testing.T) {
	r := rand.New(rand.NewSource(3))
	for n := range 24 {
		b := someBytes(r, n)
		want := wantSum(b)
		for i := range n + 1 {
			for j := i; j <= n; j++ {
				if got := Of(nil, b[:i], []byte{}, b[i:j], nil, nil, b[j:], nil); got != want {
					t.Errorf("%x cut at %d, %d: %x, not %x", b, i, j, got, want)
				}
			}
		}
		var single [][]byte
		for i := range b {
			single = append(single, b[i:i+1])
		}
		if got := Of(single...); got != want {
			t.Errorf("%x byte by byte: %x, not %x", b, got, want)
		}
	}
	for _, l := range [][][]byte{nil, {}, {nil}, {{}}, {nil, {}, nil}} {
		if got := Of(l...); got != 0 {
			t.Errorf("Of %v: %x", l, got)
		}
	}
	if Of([]byte{0}) == Of([]byte{0}, []byte{0}) {
		t.Errorf("a nought behind changes nothing")
	}
}

// TestJoinWords: P2.2, by the words alone, for small n.
func TestJoinWords(t *testing.T) {
	for _, a := range numbers() {
		for _, b := range []uint32{0, 9, math.MaxUint32, a} {
			for n := range 12 {
				if got, want := Join(a, b, n), wantJoin(a, b, n); got != want {
					t.Errorf("Join %x, %x over %d: %x, not %x", a, b, n, got, want)
				}
			}
		}
	}
	for _, n := range []int{63, 64, 127, 255, 256, 1023, 1<<12 + 1} {
		if got, want := Join(0xdeadbeef, 5, n), wantJoin(0xdeadbeef, 5, n); got != want {
			t.Errorf("Join over %d: %x, not %x", n, got, want)
		}
	}
}

// TestJoinBelow: P2.2: of n below 0 it is 0, whatever the numbers.
func TestJoinBelow(t *testing.T) {
	for _, n := range []int{-1, -2, -8, -1 << 31, -1 << 32, 1 - math.MaxInt, math.MinInt + 1, math.MinInt} {
		for _, a := range numbers() {
			if got := Join(a, ^a>>1, n); got != 0 {
				t.Errorf("Join over %d: %x", n, got)
			}
		}
	}
}

// bytesPower is what is left of x^(8 n), n being any number: squared and multiplied as polynomials of any length, then divided.
func bytesPower(n int) *poly {
	p := big.NewInt(1)
	for _, bit := range new(big.Int).Mul(big.NewInt(int64(n)), big.NewInt(8)).Text(2) {
		p = left(product(p, p))
		if bit == '1' {
			p = left(new(poly).Lsh(p, 1))
		}
	}
	return p
}

func product(a, b *poly) *poly {
	p := new(poly)
	for i := range b.BitLen() {
		if b.Bit(i) == 1 {
			p.Xor(p, new(poly).Lsh(a, uint(i)))
		}
	}
	return p
}

// farLengths: n whose bits are many, up to the greatest int.
func farLengths() []int {
	l := []int{math.MaxInt, math.MaxInt - 1, math.MaxInt / 2, 0x5555555555555555, 0x2aaaaaaaaaaaaaaa, 1e18 + 7}
	for i := range 63 {
		l = append(l, 1<<i, 1<<i-1, 1<<i+1)
	}
	return l
}

// TestJoinFar: P2.2, of whatever n; that it ends soon, too.
func TestJoinFar(t *testing.T) {
	for _, n := range farLengths() {
		power := bytesPower(n)
		for _, a := range []uint32{0, 1, 1 << 31, 7, 0xdeadbeef, math.MaxUint32} {
			want := number(left(product(polyOf(a), power))) ^ 9
			if got := Join(a, 9, n); got != want {
				t.Errorf("Join %x, 9 over %d: %x, not %x", a, n, got, want)
			}
		}
	}
}

// TestJoinAdds: P2.2: over n and then over m bytes is over n + m; differences of the numbers go through.
func TestJoinAdds(t *testing.T) {
	r := rand.New(rand.NewSource(4))
	for range 300 {
		a, b, n, m := r.Uint32(), r.Uint32(), int(r.Int63()>>1), int(r.Int63()>>1)
		if Join(Join(a, 0, n), 0, m) != Join(a, 0, n+m) {
			t.Errorf("over %d, %d", n, m)
		}
		if Join(a, 0, n)^Join(b, 0, n) != Join(a^b, 0, n) || Join(a, b, n) != Join(a, 0, n)^b {
			t.Errorf("%x, %x over %d: no difference goes through", a, b, n)
		}
	}
}

// node is what is known of neighbours that were joined: a sum and a length.
type node struct {
	sum  uint32
	size int
}

func joined(a, b node) node { return node{Join(a.sum, b.sum, b.size), a.size + b.size} }

// trees: what the nodes come to, joined two by two in each order that there is.
func trees(l []node) []node {
	if len(l) == 1 {
		return l
	}
	var out []node
	for i := 1; i < len(l); i++ {
		for _, a := range trees(l[:i]) {
			for _, b := range trees(l[i:]) {
				out = append(out, joined(a, b))
			}
		}
	}
	return out
}

// TestInAnyTree: P2.3, all trees of up to six pieces, some of no bytes.
func TestInAnyTree(t *testing.T) {
	r := rand.New(rand.NewSource(5))
	for round := range 60 {
		var pieces [][]byte
		var leaves []node
		for range round%6 + 1 {
			b := someBytes(r, r.Intn(7)*r.Intn(7))
			pieces, leaves = append(pieces, b), append(leaves, node{Sum(b), len(b)})
		}
		want := node{wantSum(slices.Concat(pieces...)), len(slices.Concat(pieces...))}
		for _, got := range trees(leaves) {
			if got != want {
				t.Fatalf("%x: %x, not %x", pieces, got, want)
			}
		}
	}
}

// TestInAnyTreeMany: P2.3, many pieces, neighbours joined in an order drawn by lot.
func TestInAnyTreeMany(t *testing.T) {
	r := rand.New(rand.NewSource(6))
	for range 20 {
		var pieces [][]byte
		var l []node
		for range 100 {
			b := someBytes(r, r.Intn(400))
			pieces, l = append(pieces, b), append(l, node{Sum(b), len(b)})
		}
		for len(l) > 1 {
			i := r.Intn(len(l) - 1)
			l = slices.Replace(l, i, i+2, joined(l[i], l[i+1]))
		}
		if want := Of(pieces...); l[0].sum != want {
			t.Errorf("%x, not %x", l[0].sum, want)
		}
	}
}

// TestTurnedAbout: P2.4, pieces of the same length, of none and alike ones too.
func TestTurnedAbout(t *testing.T) {
	r := rand.New(rand.NewSource(7))
	for n := range 130 {
		a, b := someBytes(r, n), someBytes(r, n)
		for _, c := range [][2][]byte{{a, b}, {a, a}, {make([]byte, n), b}, {a, bytes.Repeat([]byte{0xff}, n)}} {
			d := Sum(c[0]) ^ Sum(c[1])
			if got, want := Of(c[0], c[1])^Of(c[1], c[0]), Join(d, d, n); got != want {
				t.Errorf("%x: %x, not %x", c, got, want)
			}
		}
	}
}

// flip turns the bit at place i about.
func flip(b []byte, i int) { b[i/8] ^= 1 << (i % 8) }

// TestOdd: P2.5: each one and each three bits of a few bytes, and drawn ones of many.
func TestOdd(t *testing.T) {
	base := []byte("a\x00\xffz9")
	want, places := Sum(base), 8*len(base)
	unlike := func(b []byte) {
		if Sum(b) == want {
			t.Fatalf("%x and %x have one sum", base, b)
		}
	}
	for i := range places {
		b := slices.Clone(base)
		flip(b, i)
		unlike(b)
		for j := range i {
			for k := range j {
				c := slices.Clone(b)
				flip(c, j)
				flip(c, k)
				unlike(c)
			}
		}
	}
	r := rand.New(rand.NewSource(8))
	base = someBytes(r, 300)
	want, places = Sum(base), 8*len(base)
	for round := range 3000 {
		b := slices.Clone(base)
		for _, i := range r.Perm(places)[:2*(round%40)+1] {
			flip(b, i)
		}
		unlike(b)
	}
}

// TestOddParity: P2.5, why it holds: the divisor has the root 1, so what is left has as many bits, odd or even, as differ.
func TestOddParity(t *testing.T) {
	ones := func(n uint32) int { return bits.OnesCount32(n) % 2 }
	r := rand.New(rand.NewSource(9))
	for range 500 {
		a, b := someBytes(r, 40), someBytes(r, 40)
		differ := 0
		for i := range a {
			differ ^= ones(uint32(a[i] ^ b[i]))
		}
		if ones(Sum(a)^Sum(b)) != differ {
			t.Errorf("%x, %x", a, b)
		}
	}
}

// TestRound: P2.6: over 2^31 - 1 bytes more the same; over a part of them not.
func TestRound(t *testing.T) {
	const round = 1<<31 - 1
	for _, a := range numbers() {
		for _, n := range []int{0, 1, 2, 5, 1000, round - 1, round, round + 1, 3 * round, 1 << 62, math.MaxInt - round} {
			want := Join(a, 9, n)
			if got := Join(a, 9, n+round); got != want {
				t.Errorf("Join %x, 9 over %d and %d more: %x, not %x", a, n, round, got, want)
			}
		}
		if got := Join(a, 9, round); got != a^9 {
			t.Errorf("Join %x, 9 over one round: %x", a, got)
		}
	}
	if Join(2, 0, round-1) == 2 || Join(2, 0, round+1) == 2 {
		t.Errorf("another round")
	}
}

// TestWithItsSum: P2.7, bytes of none, few and many; the sum's bytes in another order don't do it.
func TestWithItsSum(t *testing.T) {
	const always = 0x48674bc7
	r := rand.New(rand.NewSource(10))
	for n := range 300 {
		b := someBytes(r, n)
		s := Sum(b)
		behind := []byte{byte(s), byte(s >> 8), byte(s >> 16), byte(s >> 24)}
		if got := Sum(append(slices.Clone(b), behind...)); got != always {
			t.Errorf("%d bytes: %x", n, got)
		}
		if got := Of(b, behind); got != always {
			t.Errorf("%d bytes, as two pieces: %x", n, got)
		}
		if got := Join(s, Sum(behind), 4); got != always {
			t.Errorf("%d bytes, joined: %x", n, got)
		}
		slices.Reverse(behind)
		if got := Of(b, behind); n > 0 && got == always {
			t.Errorf("%d bytes, the uppermost byte first: %x", n, got)
		}
	}
}

// TestHandedIn: P0.4: the pieces, their list and the spare room behind both stay as they were.
func TestHandedIn(t *testing.T) {
	room := []byte("abcdefgh")
	list := [][]byte{room[1:3], room[4:5], room[6:8]}
	before := [][]byte{room[1:3], room[4:5], room[6:8]}
	if got, want := Of(list[:2]...), wantSum([]byte("bce")); got != want {
		t.Errorf("%x, not %x", got, want)
	}
	if got, want := Sum(room[2:4]), wantSum([]byte("cd")); got != want {
		t.Errorf("%x, not %x", got, want)
	}
	if string(room) != "abcdefgh" {
		t.Errorf("the bytes were changed: %q", room)
	}
	for i := range list {
		if &list[i][0] != &before[i][0] || len(list[i]) != len(before[i]) {
			t.Errorf("piece %d was changed", i)
		}
	}
}

// TestAgain: P0.1 and P0.4: nothing is kept from call to call, and lists that are nil are like empty ones.
func TestAgain(t *testing.T) {
	b := []byte("123456789")
	for range 3 {
		if Sum(b) != 0xe3069283 || Sum(nil) != 0 || Sum([]byte{}) != 0 || Of(b, b) != Of(slices.Concat(b, b)) {
			t.Errorf("another sum, the next time")
		}
	}
	b[0] = 'x'
	if Sum(b) != wantSum(b) {
		t.Errorf("the sum of bytes as they were")
	}
}
