package codec

const maxNumber = 10 // bytes of the number 2^64 - 1

// row is bytes, one behind the other: forms are put at its end, and taken away from its beginning.
type row struct {
	bytes []byte
}

// left is how many bytes are there.
func (b *row) left() int {
	return len(b.bytes)
}

// put sets bytes behind those that are there.
func (b *row) put(more ...byte) {
	b.bytes = append(b.bytes, more...)
}

// putNumber sets a number in bytes behind those that are there.
func (b *row) putNumber(v uint64) {
	for ; v >= 128; v >>= 7 {
		b.put(byte(v) | 128)
	}
	b.put(byte(v))
}

// take takes the first n bytes away, and tells them as a piece of the row; nothing is done, if there are fewer.
func (b *row) take(n uint64) (piece []byte, ok bool) {
	if n > uint64(b.left()) {
		return nil, false
	}
	piece, b.bytes = b.bytes[:n], b.bytes[n:]
	return piece, true
}

// takeNumber takes the number away that stands at the beginning; nothing is done, if there is none.
func (b *row) takeNumber() (v uint64, ok bool) {
	for i, c := range b.bytes[:min(b.left(), maxNumber)] {
		v |= uint64(c&127) << (7 * i)
		if c >= 128 {
			continue
		}
		if c == 0 && i > 0 || c > 1 && i == maxNumber-1 { // of 64 bits the tenth byte has one
			break
		}
		b.bytes = b.bytes[i+1:]
		return v, true
	}
	return 0, false
}
