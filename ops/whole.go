package ops

import "math/bits"

// whole is a number of 128 bits, with a sign. A sum of a bag's values has room there: each is there at most 2^31 times, and no bag has more than 2^31 items.
type whole struct {
	high, low uint64
}

// add a value, so many times.
func (w *whole) add(v int64, n int) {
	high, low := bits.Mul64(uint64(v), uint64(n))
	// A value below 0 was taken for one that is 2^64 more.
	if v < 0 {
		high -= uint64(n)
	}
	var carry uint64
	w.low, carry = bits.Add64(w.low, low, 0)
	w.high, _ = bits.Add64(w.high, high, carry)
}

// value in 64 bits, and whether it has room there: the bits above are all as its sign.
func (w whole) value() (int64, bool) {
	v := int64(w.low)
	return v, w.high == uint64(v>>63)
}
