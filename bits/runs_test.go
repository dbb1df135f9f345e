package bits_test

import (
	"math"
	"slices"
	"testing"

	"polder/api"
	"polder/bits"
)

// P2.4

func TestP2_4Runs(t *testing.T) {
	each(func(p plain) {
		b := p.packed()
		for _, on := range both() {
			if l, e := bits.Runs(b, on); e != api.OK || !slices.Equal(l, p.runs(on)) {
				t.Fatalf("Runs(%v, %v): %v, %d, want %v", b, on, l, e, p.runs(on))
			}
		}
	}, 10, append(lengths(), 4095, 4096)...)
}

// P2.5

func TestP2_5Fit(t *testing.T) {
	each(func(p plain) {
		b := p.packed()
		for _, size := range places(len(p)) {
			for _, from := range places(len(p)) {
				if got, want := search(bits.Fit(b, size, from)), p.fit(size, from); got != want {
					t.Fatalf("Fit(%v, %d, %d): %v, want %v", b, size, from, got, want)
				}
			}
		}
	}, 7, 63, 64, 65, 129, 200)
}

// A size that is not valid comes before a place that is not in range.
func TestP2_5FitErrors(t *testing.T) {
	for _, c := range []struct {
		size, from int
		want       api.Errno
	}{
		{0, -1, api.ErrArg}, {0, 11, api.ErrArg}, {-1, 0, api.ErrArg}, {math.MinInt, math.MinInt, api.ErrArg},
		{1, -1, api.ErrRange}, {1, 11, api.ErrRange}, {100, 11, api.ErrRange},
		{1, 10, api.ErrNone}, {11, 0, api.ErrNone}, {math.MaxInt, 10, api.ErrNone}, {math.MaxInt, 1, api.ErrNone},
	} {
		if got, want := search(bits.Fit(example(), c.size, c.from)), (found{0, c.want}); got != want {
			t.Errorf("Fit(%d, %d): %v, want %v", c.size, c.from, got, want)
		}
	}
}

func TestP2_5Best(t *testing.T) {
	each(func(p plain) {
		b := p.packed()
		for _, size := range places(len(p)) {
			if got, want := search(bits.Best(b, size)), p.best(size); got != want {
				t.Fatalf("Best(%v, %d): %v, want %v", b, size, got, want)
			}
		}
	}, 10, append(lengths(), 4095, 4096)...)
}

func TestP2_5Block(t *testing.T) {
	each(func(p plain) {
		b := p.packed()
		for _, order := range []int{math.MinInt, -64, -1, 0, 1, 2, 3, 4, 5, 6, 7, 8, 9, 10, 11, 12, 13, 63, 64, math.MaxInt} {
			if got, want := search(bits.Block(b, order)), p.block(order); got != want {
				t.Fatalf("Block(%v, %d): %v, want %v", b, order, got, want)
			}
		}
	}, 10, append(lengths(), 1024, 2047, 4095, 4096)...)
}

// Of many bits, only the blocks from some place on are clear.
func TestP2_5BlockPlaces(t *testing.T) {
	for _, n := range []int{100, 1000, 4095, 4096} {
		for set := 0; set <= n; set += 1 + n/50 {
			p := make(plain, n).set(0, set, true)
			for order := range 13 {
				if got, want := search(bits.Block(p.packed(), order)), p.block(order); got != want {
					t.Errorf("Block of the order %d, from %d on, of %d: %v, want %v", order, set, n, got, want)
				}
			}
		}
	}
}

// P2.8

func TestP2_8Runs(t *testing.T) {
	each(func(p plain) {
		b := p.packed()
		set, _ := bits.Runs(b, true)
		clear, _ := bits.Runs(b, false)
		at, ones := 0, 0
		for len(set) > 0 || len(clear) > 0 {
			if on := len(p) > at && p[at]; on {
				if len(set) == 0 || set[0].From != at || set[0].To <= at {
					t.Fatalf("%v: no run of set bits from %d", b, at)
				}
				ones += set[0].To - at
				at, set = set[0].To, set[1:]
			} else {
				if len(clear) == 0 || clear[0].From != at || clear[0].To <= at {
					t.Fatalf("%v: no run of clear bits from %d", b, at)
				}
				at, clear = clear[0].To, clear[1:]
			}
		}
		if at != len(p) {
			t.Fatalf("%v: the runs end at %d", b, at)
		}
		if n, e := bits.Count(b, 0, len(p)); n != ones || e != api.OK {
			t.Fatalf("%v: the runs have %d bits, Count %d, %d", b, ones, n, e)
		}
	}, 9, lengths()...)
}

// Runs of set and of clear bits take turns.
func TestP2_8Turns(t *testing.T) {
	each(func(p plain) {
		b := p.packed()
		set, _ := bits.Runs(b, true)
		clear, _ := bits.Runs(b, false)
		if d := len(set) - len(clear); d < -1 || d > 1 {
			t.Fatalf("%v: %d runs of set bits, %d of clear ones", b, len(set), len(clear))
		}
	}, 9, lengths()...)
}

// P2.10

func TestP2_10Finds(t *testing.T) {
	each(func(p plain) {
		b := p.packed()
		for _, size := range places(len(p)) {
			fit, e := bits.Fit(b, size, 0)
			best, e1 := bits.Best(b, size)
			if (e == api.OK) != (e1 == api.OK) {
				t.Fatalf("%v, %d: Fit %d, Best %d", b, size, e, e1)
			}
			if e == api.OK && (!p.isClear(fit, size) || !p.isClear(best, size)) {
				t.Fatalf("%v, %d: Fit %d or Best %d is not clear", b, size, fit, best)
			}
		}
		for order := range 13 {
			at, e := bits.Block(b, order)
			if e != api.OK {
				continue
			}
			if at%(1<<order) != 0 || !p.isClear(at, 1<<order) {
				t.Fatalf("%v: Block(%d) is %d", b, order, at)
			}
			if fit, e := bits.Fit(b, 1<<order, 0); e != api.OK || fit > at {
				t.Fatalf("%v: Block(%d) is %d, but Fit %d, %d", b, order, at, fit, e)
			}
		}
	}, 9, lengths()...)
}
