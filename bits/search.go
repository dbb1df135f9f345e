package bits

import (
	"math/bits"
	"slices"

	"polder/api"
)

// Select returns the set bit (the clear one, if on is false) before which there are k others.
func Select(b api.BtBits, k int, on bool) (int, api.Errno) {
	if e := Check(b); e != api.OK {
		return 0, e
	}
	if k < 0 {
		return 0, api.ErrRange
	}
	for w := range b.Words {
		x := sought(b, w, 0, b.N, on)
		if n := bits.OnesCount64(x); k >= n {
			k -= n
			continue
		}
		for range k {
			x &= x - 1 // without its lowest one
		}
		return w*wordBits + bits.TrailingZeros64(x), api.OK
	}
	return 0, api.ErrNone
}

// Next returns the first bit from from on that is set (clear, if on is false).
func Next(b api.BtBits, from int, on bool) (int, api.Errno) {
	if e := checkRun(b, from, b.N); e != api.OK {
		return 0, e
	}
	i := next(b, from, on)
	if i == b.N {
		return 0, api.ErrNone
	}
	return i, api.OK
}

// Last returns the last bit below to that is set (clear, if on is false).
func Last(b api.BtBits, to int, on bool) (int, api.Errno) {
	if e := checkRun(b, 0, to); e != api.OK {
		return 0, e
	}
	for w := range slices.Backward(b.Words) {
		if x := sought(b, w, 0, to, on); x != 0 {
			return w*wordBits + bits.Len64(x) - 1, api.OK
		}
	}
	return 0, api.ErrNone
}

// next returns the first bit from from on that is set (clear, if on is false), and b.N if there is none.
func next(b api.BtBits, from int, on bool) int {
	for w := from / wordBits; w < len(b.Words); w++ {
		if x := sought(b, w, from, b.N, on); x != 0 {
			return w*wordBits + bits.TrailingZeros64(x)
		}
	}
	return b.N
}

// sought returns the word that has a one for each bit of the word w that lies from from on, below to, and is set (clear, if on is false).
func sought(b api.BtBits, w, from, to int, on bool) uint64 {
	x := b.Words[w]
	if !on {
		x = ^x
	}
	return x & mask(w, from, to)
}
