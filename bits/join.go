package bits

import "polder/api"

// And returns the bits that are set in both.
func And(a, b api.BtBits) (api.BtBits, api.Errno) {
	return join(a, b, func(x, y uint64) uint64 { return x & y })
}

// Or returns the bits that are set in one of both at least.
func Or(a, b api.BtBits) (api.BtBits, api.Errno) {
	return join(a, b, func(x, y uint64) uint64 { return x | y })
}

// Less returns the bits that are set in a, but not in b.
func Less(a, b api.BtBits) (api.BtBits, api.Errno) {
	return join(a, b, func(x, y uint64) uint64 { return x &^ y })
}

// Flip returns the bits that are clear in b.
func Flip(b api.BtBits) (api.BtBits, api.Errno) {
	if e := Check(b); e != api.OK {
		return api.BtBits{}, e
	}
	words := make([]uint64, len(b.Words))
	for w := range words {
		words[w] = sought(b, w, 0, b.N, false)
	}
	return api.BtBits{N: b.N, Words: words}, api.OK
}

// join returns the bits whose words are those of a and b, joined; two zeros must give a zero, or bits from N on would be set.
func join(a, b api.BtBits, words func(x, y uint64) uint64) (api.BtBits, api.Errno) {
	if e := Check(a); e != api.OK {
		return api.BtBits{}, e
	}
	if e := Check(b); e != api.OK {
		return api.BtBits{}, e
	}
	if a.N != b.N {
		return api.BtBits{}, api.ErrArg
	}
	joined := make([]uint64, len(a.Words))
	for w, x := range a.Words {
		joined[w] = words(x, b.Words[w])
	}
	return api.BtBits{N: a.N, Words: joined}, api.OK
}
