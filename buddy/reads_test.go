package buddy_test

import (
	"slices"
	"testing"

	"polder/api"
)

// P8.4

func TestP8_4Blocks(t *testing.T) {
	for _, s := range small() {
		b := load(t, s)
		if l := blocks(t, b); !slices.Equal(l, of(s).blocks()) {
			t.Errorf("the free blocks of %v: %v", s, l)
		}
	}
	for _, p := range mixed() {
		b := load(t, p.state())
		if l := blocks(t, b); !slices.Equal(l, p.blocks()) {
			t.Errorf("the free blocks of %v: %v", p.state(), l)
		}
		is(t, b, p)
	}
}

// largest returns the greatest order of which all pages of a block are free, or -1.
func (p *plain) largest() int {
	for order := p.order; order >= 0; order-- {
		if slices.ContainsFunc(p.all(order), p.empty) {
			return order
		}
	}
	return -1
}

func TestP8_4Largest(t *testing.T) {
	check := func(s api.BuState) {
		t.Helper()
		b, order, want := load(t, s), of(s).largest(), api.OK
		if order < 0 {
			order, want = 0, api.ErrNone
		}
		if n, e := b.Largest(); n != order || e != want {
			t.Errorf("Largest of %v: %d, %d, not %d, %d", s, n, e, order, want)
		}
	}
	for _, s := range small() {
		check(s)
	}
	for _, p := range mixed() {
		check(p.state())
	}
}

// P8.4 and P8.8

// room returns how many blocks of an order have only free pages.
func (p *plain) room(order int) int {
	n := 0
	for _, x := range p.all(order) {
		if p.empty(x) {
			n++
		}
	}
	return n
}

func TestP8_4Room(t *testing.T) {
	check := func(s api.BuState) {
		t.Helper()
		b, p := load(t, s), of(s)
		for _, order := range []int{-2, -1, 0, 1, 2, 3, 4, 5, 6, 7, 8, 9, 10, 11, 12, 64, 1 << 32} {
			room, want := p.room(order), api.OK
			if order < 0 || order > most {
				room, want = 0, api.ErrRange
			}
			if n, e := b.Room(order); n != room || e != want {
				t.Errorf("Room(%d) of %v: %d, %d, not %d, %d", order, s, n, e, room, want)
			}
		}
		for _, order := range odd() {
			if n, e := b.Room(order); n != 0 || e != api.ErrRange {
				t.Errorf("Room(%d): %d, %d", order, n, e)
			}
		}
		is(t, b, p)
	}
	for _, s := range small() {
		check(s)
	}
	for _, p := range mixed() {
		check(p.state())
	}
}

// Room is the sum over the free blocks, and blocks are given just so often, whatever is at the pages that are given.
func TestP8_8Room(t *testing.T) {
	check := func(s api.BuState) {
		t.Helper()
		for order := range most + 1 {
			b, sum := load(t, s), 0
			for _, x := range blocks(t, b) {
				if x.Order >= order {
					sum += power(x.Order - order)
				}
			}
			times := 0
			for room := sum; ; room-- {
				if n, e := b.Room(order); n != room || e != api.OK {
					t.Fatalf("Room(%d) of %v: %d, %d, not %d", order, b.Save(), n, e, room)
				}
				if _, e := b.Alloc(order); e != api.OK {
					want(t, e, api.ErrFull, "Alloc")
					break
				}
				times++
			}
			if times != sum {
				t.Errorf("%v: %d blocks of the order %d are given, not %d", s, times, order, sum)
			}
		}
	}
	for _, s := range small() {
		check(s)
	}
	for _, p := range mixed() {
		check(p.state())
	}
}

// P8.4

func TestP8_4Owner(t *testing.T) {
	check := func(s api.BuState) {
		t.Helper()
		b, p := load(t, s), of(s)
		for page := -10; page < power(s.Order)+10; page++ {
			x, want := api.BuBlock{}, api.OK
			switch {
			case page < 0 || page >= power(s.Order):
				want = api.ErrRange
			case !p.taken[page]:
				want = api.ErrNone
			default:
				x = p.owner[page]
			}
			if got, e := b.Owner(page); got != x || e != want {
				t.Fatalf("Owner(%d) of %v: %v, %d, not %v, %d", page, s, got, e, x, want)
			}
		}
		for _, page := range odd() {
			if x, e := b.Owner(page); x != (api.BuBlock{}) || e != api.ErrRange {
				t.Errorf("Owner(%d): %v, %d", page, x, e)
			}
		}
		is(t, b, p)
	}
	for _, s := range small() {
		check(s)
	}
	for _, p := range mixed() {
		check(p.state())
	}
}

// Reads change nothing, and what they return is new memory.
func TestP8_4NewMemory(t *testing.T) {
	for _, p := range mixed() {
		b := load(t, p.state())
		l, m := blocks(t, b), blocks(t, b)
		for i := range l {
			l[i] = api.BuBlock{Page: 7, Order: 7}
		}
		if !slices.Equal(m, p.blocks()) {
			t.Errorf("two results of Blocks share memory")
		}
		is(t, b, p)
		before := slices.Clone(m)
		b.Alloc(0)
		b.Free(0, 0)
		if !slices.Equal(m, before) {
			t.Errorf("a result of Blocks was changed from %v to %v", before, m)
		}
	}
}
