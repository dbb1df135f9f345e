package radixmap

import "polder/api"

// Where the numbers of a description begin in a packed one, whose lowest bit is always 1.
const (
	ownerAt = 1
	stateAt = 13
	stampAt = 17
	hugeAt  = 57
)

// Pack returns the packed description.
func Pack(d api.RmDesc) (uint64, api.Errno) {
	if d.Owner < 0 || d.Owner > api.MaxRmOwner || d.State < 0 || d.State > api.MaxRmState || d.Stamp < 0 || d.Stamp > api.MaxStamp {
		return 0, api.ErrArg
	}
	x := 1 | uint64(d.Owner)<<ownerAt | uint64(d.State)<<stateAt | uint64(d.Stamp)<<stampAt
	if d.Huge {
		x |= 1 << hugeAt
	}
	return x, api.OK
}

// Unpack returns the description that is packed as x.
func Unpack(x uint64) (api.RmDesc, api.Errno) {
	d := api.RmDesc{
		Owner: int(part(x, ownerAt, stateAt)),
		State: int(part(x, stateAt, stampAt)),
		Stamp: int64(part(x, stampAt, hugeAt)),
		Huge:  part(x, hugeAt, hugeAt+1) == 1,
	}
	// What is left out above is wrong in x just if it is not what Pack puts there.
	if again, e := Pack(d); e != api.OK || again != x {
		return api.RmDesc{}, api.ErrForm
	}
	return d, api.OK
}

// part returns the bits of x from from on, below to, as a number.
func part(x uint64, from, to int) uint64 { return x >> from & (1<<(to-from) - 1) }
