package bits_test

import (
	"testing"

	"polder/api"
	"polder/bits"
)

func both() []bool { return []bool{false, true} }

// P2.3

func TestP2_3Select(t *testing.T) {
	each(func(p plain) {
		b := p.packed()
		for _, k := range places(len(p)) {
			for _, on := range both() {
				if got, want := search(bits.Select(b, k, on)), p.sel(k, on); got != want {
					t.Fatalf("Select(%v, %d, %v): %v, want %v", b, k, on, got, want)
				}
			}
		}
	}, 9, append(lengths(), 4095, 4096)...)
}

func TestP2_3Next(t *testing.T) {
	each(func(p plain) {
		b := p.packed()
		for _, from := range places(len(p)) {
			for _, on := range both() {
				if got, want := search(bits.Next(b, from, on)), p.next(from, on); got != want {
					t.Fatalf("Next(%v, %d, %v): %v, want %v", b, from, on, got, want)
				}
			}
		}
	}, 9, append(lengths(), 4095, 4096)...)
}

func TestP2_3Last(t *testing.T) {
	each(func(p plain) {
		b := p.packed()
		for _, to := range places(len(p)) {
			for _, on := range both() {
				if got, want := search(bits.Last(b, to, on)), p.last(to, on); got != want {
					t.Fatalf("Last(%v, %d, %v): %v, want %v", b, to, on, got, want)
				}
			}
		}
	}, 9, append(lengths(), 4095, 4096)...)
}

// Where there are no bits, none is found, and 0 is in range.
func TestP2_3NoBits(t *testing.T) {
	for _, b := range []api.BtBits{{}, {Words: []uint64{}}} {
		for _, on := range both() {
			for name, got := range map[string]found{
				"Select": search(bits.Select(b, 0, on)),
				"Next":   search(bits.Next(b, 0, on)),
				"Last":   search(bits.Last(b, 0, on)),
			} {
				if want := (found{0, api.ErrNone}); got != want {
					t.Errorf("%s of no bits: %v, want %v", name, got, want)
				}
			}
			if got := search(bits.Next(b, 1, on)); got.e != api.ErrRange {
				t.Errorf("Next(1) of no bits: %v", got)
			}
		}
	}
}

// P2.7

func TestP2_7Select(t *testing.T) {
	each(func(p plain) {
		b := p.packed()
		n := 0
		for i, is := range p {
			if !is {
				continue
			}
			if below, e := bits.Count(b, 0, i); below != n || e != api.OK {
				t.Fatalf("Count(%v, 0, %d): %d, %d, want %d", b, i, below, e, n)
			}
			if at, e := bits.Select(b, n, true); at != i || e != api.OK {
				t.Fatalf("Select(%v, %d): %d, %d, want %d", b, n, at, e, i)
			}
			n++
		}
		if at, e := bits.Select(b, n, true); at != 0 || e != api.ErrNone {
			t.Fatalf("Select(%v, %d): %d, %d, want ErrNone", b, n, at, e)
		}
	}, 8, lengths()...)
}

func TestP2_7Ends(t *testing.T) {
	each(func(p plain) {
		b := p.packed()
		for from := range len(p) + 1 {
			next, e := bits.Next(b, from, true)
			if e == api.ErrNone {
				next = len(p)
			}
			if n, e := bits.Count(b, from, next); n != 0 || e != api.OK {
				t.Fatalf("%v: %d bits are set between %d and Next %d (%d)", b, n, from, next, e)
			}
			last, e := bits.Last(b, from, true)
			if e == api.ErrNone {
				last = -1
			}
			if n, e := bits.Count(b, last+1, from); n != 0 || e != api.OK {
				t.Fatalf("%v: %d bits are set between Last %d and %d (%d)", b, n, last, from, e)
			}
		}
	}, 8, lengths()...)
}
