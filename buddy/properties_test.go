package buddy_test

import (
	"slices"
	"testing"

	"polder/api"
	"polder/buddy"
)

// states returns the states that the properties are looked at in.
func states() []api.BuState {
	l := small()
	for _, p := range mixed() {
		l = append(l, p.state())
	}
	return l
}

// P8.5

// Alloc returns ErrFull exactly if no block has only free pages; what it gives had only free pages, and of the blocks that could be given none is at a lower page in a free block of a lesser order.
func TestP8_5Alloc(t *testing.T) {
	for _, s := range states() {
		p := of(s)
		for order := range most + 1 {
			b := load(t, s)
			before := blocks(t, b)
			page, e := b.Alloc(order)
			if (e == api.ErrFull) != (p.room(order) == 0) || e != api.OK && e != api.ErrFull {
				t.Errorf("Alloc(%d) of %v: %d", order, s, e)
			}
			if e != api.OK {
				continue
			}
			x := api.BuBlock{Page: page, Order: order}
			if !p.is(x) || !p.empty(x) {
				t.Fatalf("Alloc(%d) of %v gives %d", order, s, page)
			}
			from := before[slices.IndexFunc(before, func(y api.BuBlock) bool { return y.Page <= page && page < y.Page+size(y) })]
			for _, y := range before {
				if y.Order >= order && (y.Order < from.Order || y.Order == from.Order && y.Page < page) {
					t.Errorf("Alloc(%d) of %v gives %d, though %v is free", order, s, page, y)
				}
			}
			p.give(x)
			is(t, b, p)
			p.take(x)
		}
	}
}

// P8.6

// tiles ends the test if the given and the free blocks of an allocator do not have each page once, or two free blocks are the halves of a block.
func tiles(t *testing.T, b *buddy.Buddy) {
	t.Helper()
	s, free := b.Save(), blocks(t, b)
	times := make([]int, power(s.Order))
	for _, x := range slices.Concat(s.Given, free) {
		for page := x.Page; page < x.Page+size(x); page++ {
			times[page]++
		}
	}
	for page, n := range times {
		if n != 1 {
			t.Fatalf("the page %d is in %d blocks of %v, %v", page, n, s, free)
		}
	}
	for i, x := range free {
		for _, y := range free[:i] {
			if x.Order == y.Order && double(x) == double(y) {
				t.Fatalf("%v and %v are the halves of a block", x, y)
			}
		}
	}
}

func TestP8_6Tiles(t *testing.T) {
	r := source()
	for _, s := range small() {
		tiles(t, load(t, s))
	}
	for _, p := range mixed() {
		b := load(t, p.state())
		tiles(t, b)
		for range 50 {
			c := random(r, p)
			p.do(c)
			do(b, c)
			tiles(t, b)
		}
	}
}

// P8.7

// orders calls try with all orders of n things.
func orders(n int, try func(l []int)) {
	var next func(l []int)
	next = func(l []int) {
		if len(l) == n {
			try(l)
			return
		}
		for i := range n {
			if !slices.Contains(l, i) {
				next(append(slices.Clone(l), i))
			}
		}
	}
	next(nil)
}

// back frees the given blocks of a state in an order, and ends the test if the whole range is not one free block then.
func back(t *testing.T, s api.BuState, order []int) {
	t.Helper()
	b := load(t, s)
	for _, i := range order {
		want(t, b.Free(s.Given[i].Page, s.Given[i].Order), api.OK, "Free")
	}
	if l := blocks(t, b); !slices.Equal(l, []api.BuBlock{{Order: s.Order}}) || len(b.Save().Given) != 0 {
		t.Fatalf("%v freed in the order %v: %v, %v", s, order, b.Save(), l)
	}
	if n, e := b.Largest(); n != s.Order || e != api.OK {
		t.Fatalf("Largest: %d, %d", n, e)
	}
}

func TestP8_7Back(t *testing.T) {
	r := source()
	for _, s := range states() {
		if n := len(s.Given); n <= 5 {
			orders(n, func(l []int) { back(t, s, l) })
		}
		for range 5 {
			back(t, s, r.Perm(len(s.Given)))
		}
	}
}

// Free undoes Alloc, and AllocAt.
func TestP8_7Undo(t *testing.T) {
	for _, s := range states() {
		b, p := load(t, s), of(s)
		for order := range most + 1 {
			if page, e := b.Alloc(order); e == api.OK {
				want(t, b.Free(page, order), api.OK, "Free")
			}
			is(t, b, p)
			for i, x := range p.all(order) {
				if i%7 < 3 && b.AllocAt(x.Page, order) == api.OK {
					want(t, b.Free(x.Page, order), api.OK, "Free")
				}
			}
			is(t, b, p)
		}
	}
}

// Of the same blocks, given in whatever order, comes the same allocator.
func TestP8_7AnyWay(t *testing.T) {
	r := source()
	for _, s := range states() {
		b := start(t, s.Order)
		for _, i := range r.Perm(len(s.Given)) {
			want(t, b.AllocAt(s.Given[i].Page, s.Given[i].Order), api.OK, "AllocAt")
		}
		is(t, b, of(s))
	}
}
