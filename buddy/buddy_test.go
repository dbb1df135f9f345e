package buddy_test

import (
	"slices"
	"testing"

	"polder/api"
	"polder/buddy"
)

func TestExamples(t *testing.T) {
	b := start(t, 3)
	give := func(order, page int, e api.Errno) {
		t.Helper()
		if n, got := b.Alloc(order); n != page || got != e {
			t.Errorf("Alloc(%d): %d, %d, not %d, %d", order, n, got, page, e)
		}
	}
	give(1, 0, api.OK)
	give(0, 2, api.OK)
	give(1, 4, api.OK)
	if l := blocks(t, b); !slices.Equal(l, []api.BuBlock{{Page: 3, Order: 0}, {Page: 6, Order: 1}}) {
		t.Errorf("Blocks: %v", l)
	}
	give(2, 0, api.ErrFull)
	if n, e := b.Largest(); n != 1 || e != api.OK {
		t.Errorf("Largest: %d, %d", n, e)
	}
	if n, e := b.Room(0); n != 3 || e != api.OK {
		t.Errorf("Room(0): %d, %d", n, e)
	}
	want(t, b.Free(0, 0), api.ErrDown, "Free(0, 0)")
	want(t, b.Free(0, 1), api.OK, "Free(0, 1)")
	give(2, 0, api.ErrFull)
	want(t, b.Free(2, 0), api.OK, "Free(2, 0)")
	give(2, 0, api.OK)
}

// copied returns a pointer to a copy of an allocator that has given blocks.
func copied(b *buddy.Buddy) *buddy.Buddy {
	b.Alloc(0)
	b.AllocAt(8, 2)
	c := *b
	return &c
}

func TestP8NotMade(t *testing.T) {
	for name, b := range map[string]*buddy.Buddy{"nil": nil, "zero": new(buddy.Buddy), "copy": copied(start(t, most))} {
		for _, n := range []int{-1, 0, 8, 11} {
			if page, e := b.Alloc(n); page != 0 || e != api.ErrNil {
				t.Errorf("%s: Alloc(%d): %d, %d", name, n, page, e)
			}
			for _, order := range []int{-1, 0, 2, 11} {
				want(t, b.AllocAt(n, order), api.ErrNil, name+": AllocAt")
				want(t, b.Free(n, order), api.ErrNil, name+": Free")
			}
			if room, e := b.Room(n); room != 0 || e != api.ErrNil {
				t.Errorf("%s: Room(%d): %d, %d", name, n, room, e)
			}
			if x, e := b.Owner(n); x != (api.BuBlock{}) || e != api.ErrNil {
				t.Errorf("%s: Owner(%d): %v, %d", name, n, x, e)
			}
		}
		if l, e := b.Blocks(); len(l) != 0 || e != api.ErrNil {
			t.Errorf("%s: Blocks: %v, %d", name, l, e)
		}
		if n, e := b.Largest(); n != 0 || e != api.ErrNil {
			t.Errorf("%s: Largest: %d, %d", name, n, e)
		}
		if s := b.Save(); !same(s, api.BuState{}) {
			t.Errorf("%s: Save: %v", name, s)
		}
	}
}

// A copy shares memory with the allocator that it was made of, which its calls must not change.
func TestP8Copy(t *testing.T) {
	b := start(t, most)
	c := copied(b)
	before := b.Save()
	c.Alloc(0)
	c.AllocAt(16, 0)
	c.Free(8, 2)
	if s := b.Save(); !same(s, before) {
		t.Errorf("the allocator is %v, not %v", s, before)
	}
}

// P8.1

func TestP8_1New(t *testing.T) {
	for order := -5; order <= 20; order++ {
		b, e := buddy.New(order)
		if order < 0 || order > most {
			if b != nil || e != api.ErrRange {
				t.Errorf("New(%d): %v, %d, not ErrRange", order, b != nil, e)
			}
			continue
		}
		if b == nil || e != api.OK {
			t.Fatalf("New(%d): %d", order, e)
		}
		is(t, b, &plain{order: order})
		if l := blocks(t, b); !slices.Equal(l, []api.BuBlock{{Order: order}}) {
			t.Errorf("the free blocks of New(%d) are %v", order, l)
		}
	}
	for _, order := range odd() {
		if b, e := buddy.New(order); b != nil || e != api.ErrRange {
			t.Errorf("New(%d): %v, %d, not ErrRange", order, b != nil, e)
		}
	}
}

// P8.2 and P8.3

// numbers are pages and orders, right ones and others, for a range with at most 16 pages.
func numbers() []int {
	l := odd()
	for n := -3; n <= 20; n++ {
		l = append(l, n)
	}
	return append(l, 63, 64, 65, 1023, 1024)
}

// Each call does in each state of a small range what is described.
func TestP8_2And3EachState(t *testing.T) {
	seen := map[api.Errno]int{}
	for _, s := range small() {
		for _, order := range numbers() {
			b, p := load(t, s), of(s)
			_, e := both(t, b, p, call{alloc, 0, order})
			is(t, b, p)
			seen[e]++
		}
		for _, kind := range []kind{allocAt, free} {
			for page := -1; page <= 9; page++ {
				for order := -1; order <= 5; order++ {
					b, p := load(t, s), of(s)
					_, e := both(t, b, p, call{kind, page, order})
					is(t, b, p)
					seen[e]++
				}
			}
		}
	}
	for _, e := range []api.Errno{api.OK, api.ErrFull, api.ErrRange, api.ErrTwice, api.ErrDown} {
		if seen[e] == 0 {
			t.Errorf("no call returns %d: %v", e, seen)
		}
	}
}

// Numbers of any size are no pages, and no orders.
func TestP8_2And3Numbers(t *testing.T) {
	for _, p := range mixed() {
		b := load(t, p.state())
		for _, n := range numbers() {
			for _, m := range odd() {
				for _, c := range []call{{alloc, 0, m}, {allocAt, n, m}, {allocAt, m, n}, {free, n, m}, {free, m, n}} {
					if page, e := do(b, c); page != 0 || e != api.ErrRange {
						t.Errorf("%v: %d, %d, not ErrRange", c, page, e)
					}
				}
			}
		}
		is(t, b, p)
	}
}

func TestP8_2Alloc(t *testing.T) {
	// The least order counts before the least page; of one order the least page does.
	s := api.BuState{Order: 4, Given: []api.BuBlock{{Page: 4, Order: 2}, {Page: 9}, {Page: 10}, {Page: 13}}}
	for i, c := range []struct {
		order, page int
		e           api.Errno
	}{{0, 8, api.OK}, {1, 14, api.OK}, {2, 0, api.OK}, {3, 0, api.ErrFull}, {4, 0, api.ErrFull}, {5, 0, api.ErrFull}, {10, 0, api.ErrFull}, {11, 0, api.ErrRange}, {-1, 0, api.ErrRange}} {
		b := load(t, s)
		if page, e := b.Alloc(c.order); page != c.page || e != c.e {
			t.Errorf("%d: %d, %d, not %d, %d", i, page, e, c.page, c.e)
		}
	}
	b := load(t, s)
	for i, page := range []int{8, 11, 12, 14, 15, 0, 1, 2, 3} {
		if n, e := b.Alloc(0); n != page || e != api.OK {
			t.Errorf("%d: %d, %d, not %d", i, n, e, page)
		}
	}
	if n, e := b.Alloc(0); n != 0 || e != api.ErrFull {
		t.Errorf("Alloc(0): %d, %d", n, e)
	}
}

// An order that is in no range of this size, but in one of another, is one of no free block.
func TestP8_2AllocOrder(t *testing.T) {
	for order := range most + 1 {
		b := start(t, order)
		for k := order + 1; k <= most; k++ {
			if page, e := b.Alloc(k); page != 0 || e != api.ErrFull {
				t.Errorf("Alloc(%d) of the order %d: %d, %d", k, order, page, e)
			}
		}
		if page, e := b.Alloc(order); page != 0 || e != api.OK {
			t.Errorf("Alloc(%d): %d, %d", order, page, e)
		}
	}
}

// What is left beside a block are its other halves.
func TestP8_2Left(t *testing.T) {
	for page := range 16 {
		b := start(t, 4)
		want(t, b.AllocAt(page, 0), api.OK, "AllocAt")
		var left []api.BuBlock
		for order := 3; order >= 0; order-- {
			left = append(left, api.BuBlock{Page: page / power(order) * power(order), Order: order})
			if x := &left[len(left)-1]; x.Page/power(order)%2 == 0 {
				x.Page += power(order)
			} else {
				x.Page -= power(order)
			}
		}
		slices.SortFunc(left, func(x, y api.BuBlock) int { return x.Page - y.Page })
		if l := blocks(t, b); !slices.Equal(l, left) {
			t.Errorf("beside %d: %v, not %v", page, l, left)
		}
	}
}

// AllocAt returns ErrTwice if one page is not free, whichever it is, and in whatever block.
func TestP8_2AllocAtTwice(t *testing.T) {
	for page := range 16 {
		for order := range 5 {
			b := start(t, 4)
			x := api.BuBlock{Page: page / power(order) * power(order), Order: order}
			want(t, b.AllocAt(x.Page, x.Order), api.OK, "AllocAt")
			for k := range 5 {
				for at := 0; at < 16; at += power(k) {
					e := api.OK
					if at < x.Page+size(x) && x.Page < at+power(k) {
						e = api.ErrTwice
					}
					c := load(t, b.Save())
					want(t, c.AllocAt(at, k), e, "AllocAt")
				}
			}
			for _, at := range []int{16, 17, 32} {
				want(t, b.AllocAt(at, 0), api.ErrRange, "AllocAt behind the end")
			}
			want(t, b.AllocAt(x.Page, 5), api.ErrRange, "AllocAt of a greater order")
		}
	}
}

// P8.3

// Free needs the page and the order of a given block.
func TestP8_3Free(t *testing.T) {
	s := api.BuState{Order: 4, Given: []api.BuBlock{{Page: 4, Order: 2}, {Page: 9}, {Page: 10, Order: 1}}}
	for i, c := range []struct {
		page, order int
		e           api.Errno
	}{
		{4, 2, api.OK}, {9, 0, api.OK}, {10, 1, api.OK},
		{4, 0, api.ErrDown}, {4, 1, api.ErrDown}, {6, 1, api.ErrDown}, {7, 0, api.ErrDown}, {0, 3, api.ErrDown}, {0, 2, api.ErrDown},
		{8, 0, api.ErrDown}, {8, 1, api.ErrDown}, {10, 0, api.ErrDown}, {11, 0, api.ErrDown}, {12, 2, api.ErrDown}, {0, 4, api.ErrDown}, {15, 0, api.ErrDown},
		{4, 3, api.ErrRange}, {5, 1, api.ErrRange}, {9, 1, api.ErrRange}, {10, 2, api.ErrRange}, {16, 0, api.ErrRange}, {-1, 0, api.ErrRange},
		{4, -1, api.ErrRange}, {0, 5, api.ErrRange}, {0, 11, api.ErrRange}, {-4, 2, api.ErrRange}, {20, 2, api.ErrRange},
	} {
		b, p := load(t, s), of(s)
		want(t, b.Free(c.page, c.order), c.e, "Free")
		if _, e := p.do(call{free, c.page, c.order}); e != c.e {
			t.Errorf("%d: the table says %d, the plain allocator %d", i, c.e, e)
		}
		is(t, b, p)
		if c.e == api.OK {
			want(t, b.Free(c.page, c.order), api.ErrDown, "Free once more")
			is(t, b, p)
		}
	}
}

// A random walk is the same for the allocator and the plain one, also if it is saved and loaded between.
func TestP8_2And3Walks(t *testing.T) {
	r := source()
	seen := map[kind]map[api.Errno]int{alloc: {}, allocAt: {}, free: {}}
	for _, p := range mixed() {
		b := load(t, p.state())
		for i := range 150 {
			c := random(r, p)
			_, e := both(t, b, p, c)
			seen[c.kind][e]++
			if i%10 == 0 {
				is(t, b, p)
				b = load(t, b.Save())
			}
		}
		is(t, b, p)
	}
	for kind, errors := range map[kind][]api.Errno{alloc: {api.OK, api.ErrRange, api.ErrFull}, allocAt: {api.OK, api.ErrRange, api.ErrTwice}, free: {api.OK, api.ErrRange, api.ErrDown}} {
		for _, e := range errors {
			if seen[kind][e] == 0 {
				t.Errorf("no call %d returns %d: %v", kind, e, seen)
			}
		}
	}
}
