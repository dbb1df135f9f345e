package radixmap_test

import (
	"math"
	"math/bits"
	"testing"

	"polder/api"
	"polder/radixmap"
)

// P7.1

func TestP7_1Pack(t *testing.T) {
	for _, d := range descs() {
		x, e := radixmap.Pack(d)
		if x != packed(d) || e != api.OK {
			t.Errorf("Pack(%v): %d, %d, not %d", d, x, e, packed(d))
		}
		if y, e := radixmap.Unpack(x); y != d || e != api.OK {
			t.Errorf("Unpack(%d): %v, %d, not %v", x, y, e, d)
		}
	}
	for _, c := range []struct {
		d api.RmDesc
		x uint64
	}{
		{api.RmDesc{}, 1}, {five(), 401419}, {api.RmDesc{Owner: 1}, 3}, {api.RmDesc{Owner: owners}, 8191},
		{api.RmDesc{State: 1}, 8193}, {api.RmDesc{State: kinds}, 122881}, {api.RmDesc{Stamp: 1}, 131073},
		{api.RmDesc{Stamp: stamps}, 131072000000000001}, {api.RmDesc{Huge: true}, 144115188075855873},
	} {
		if x, e := radixmap.Pack(c.d); x != c.x || e != api.OK {
			t.Errorf("Pack(%v): %d, %d, not %d", c.d, x, e, c.x)
		}
	}
}

func TestP7_1PackErrors(t *testing.T) {
	for _, d := range badDescs() {
		if x, e := radixmap.Pack(d); x != 0 || e != api.ErrArg {
			t.Errorf("Pack(%v): %d, %d, not ErrArg", d, x, e)
		}
	}
}

// unpacked returns the description that is packed as x, and whether there is one, by division.
func unpacked(x uint64) (api.RmDesc, bool) {
	rest, d := x/2, api.RmDesc{}
	d.Owner, rest = int(rest%4096), rest/4096
	d.State, rest = int(rest%16), rest/16
	stamp := rest % (1 << 40)
	d.Stamp, rest = int64(stamp), rest/(1<<40)
	d.Huge = rest == 1
	if x%2 == 0 || stamp > stamps || rest > 1 {
		return api.RmDesc{}, false
	}
	return d, true
}

// checkUnpack checks what Unpack returns, and that Pack undoes it.
func checkUnpack(t *testing.T, x uint64) {
	t.Helper()
	want, right := unpacked(x)
	d, e := radixmap.Unpack(x)
	if !right {
		if d != (api.RmDesc{}) || e != api.ErrForm {
			t.Errorf("Unpack(%d): %v, %d, not ErrForm", x, d, e)
		}
		return
	}
	if d != want || e != api.OK {
		t.Errorf("Unpack(%d): %v, %d, not %v", x, d, e, want)
	}
	if y, e := radixmap.Pack(d); y != x || e != api.OK {
		t.Errorf("Pack(%v): %d, %d, not %d", d, y, e, x)
	}
}

func TestP7_1Unpack(t *testing.T) {
	for x := range uint64(1 << 18) {
		checkUnpack(t, x)
	}
	for _, d := range descs() {
		x := packed(d)
		checkUnpack(t, x)
		for i := range 64 {
			checkUnpack(t, x^1<<i)
		}
	}
	r := source()
	for range 20000 {
		x := r.Uint64()
		checkUnpack(t, x)
		checkUnpack(t, x>>(r.IntN(10)+1))
		checkUnpack(t, x>>(r.IntN(10)+1)|1)
	}
}

// No number is packed that is not odd, has a stamp above the greatest one, or bits above that of Huge.
func TestP7_1UnpackErrors(t *testing.T) {
	for _, x := range []uint64{
		0, 2, 8190, hugeBit, packed(five()) - 1,
		packed(api.RmDesc{Stamp: stamps}) + 1<<17, packed(api.RmDesc{Owner: owners, State: kinds, Stamp: stamps, Huge: true}) + 1<<17,
		1<<57 - 1, 1<<58 - 1, 1<<58 + 1, 1<<63 + 1, 1<<58 + packed(five()), math.MaxUint64, math.MaxUint64 - 1,
	} {
		if d, e := radixmap.Unpack(x); d != (api.RmDesc{}) || e != api.ErrForm {
			t.Errorf("Unpack(%d): %v, %d, not ErrForm", x, d, e)
		}
	}
	for i := range 64 {
		x := uint64(1) << i
		if _, e := radixmap.Unpack(x); (e == api.OK) != (bits.TrailingZeros64(x) == 0) {
			t.Errorf("Unpack(%d): %d", x, e)
		}
	}
}
