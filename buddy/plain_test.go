package buddy_test

import (
	"math"
	"math/rand/v2"
	"slices"
	"testing"

	"polder/api"
	"polder/buddy"
)

const (
	most = 10   // the greatest order
	all  = 1024 // the pages of its range
)

// plain is an allocator that says of each single page whose it is.
type plain struct {
	order int
	taken [all]bool
	owner [all]api.BuBlock // of the pages that are taken
}

// kind is one of the calls that change an allocator.
type kind int

const (
	alloc kind = iota
	allocAt
	free
)

// call is one of them; Alloc has no page.
type call struct {
	kind        kind
	page, order int
}

func (p *plain) clone() *plain {
	c := *p
	return &c
}

// power returns 2^n.
func power(n int) int {
	x := 1
	for range n {
		x *= 2
	}
	return x
}

func size(x api.BuBlock) int { return power(x.Order) }

// all returns the blocks of an order in the range, ascending.
func (p *plain) all(order int) []api.BuBlock {
	var l []api.BuBlock
	if order < 0 || order > p.order {
		return nil
	}
	for i := range power(p.order - order) {
		l = append(l, api.BuBlock{Page: i * power(order), Order: order})
	}
	return l
}

// is reports whether there is such a block in the range.
func (p *plain) is(x api.BuBlock) bool { return slices.Contains(p.all(x.Order), x) }

// empty reports whether all pages of a block of the range are free.
func (p *plain) empty(x api.BuBlock) bool {
	return !slices.Contains(p.taken[x.Page:x.Page+size(x)], true)
}

// double returns the block of twice the size that has x.
func double(x api.BuBlock) api.BuBlock {
	return api.BuBlock{Page: x.Page / (2 * size(x)) * (2 * size(x)), Order: x.Order + 1}
}

// blocks returns the free blocks by their definition, ascending.
func (p *plain) blocks() []api.BuBlock {
	var l []api.BuBlock
	for order := range p.order + 1 {
		for _, x := range p.all(order) {
			if p.empty(x) && (order == p.order || !p.empty(double(x))) {
				l = append(l, x)
			}
		}
	}
	slices.SortFunc(l, func(a, b api.BuBlock) int { return a.Page - b.Page })
	return l
}

// best returns the free block that is taken for a block of an order, and whether there is one.
func (p *plain) best(order int) (api.BuBlock, bool) {
	best, found := api.BuBlock{}, false
	for _, x := range p.blocks() { // ascending, so that of several with one order the first one stays
		if x.Order >= order && (!found || x.Order < best.Order) {
			best, found = x, true
		}
	}
	return best, found
}

func (p *plain) give(x api.BuBlock) {
	for page := x.Page; page < x.Page+size(x); page++ {
		p.taken[page], p.owner[page] = true, x
	}
}

func (p *plain) take(x api.BuBlock) {
	for page := x.Page; page < x.Page+size(x); page++ {
		p.taken[page], p.owner[page] = false, api.BuBlock{}
	}
}

// do does a call, and returns the page that Alloc returns.
func (p *plain) do(c call) (int, api.Errno) {
	x := api.BuBlock{Page: c.page, Order: c.order}
	switch c.kind {
	case alloc:
		if c.order < 0 || c.order > most {
			return 0, api.ErrRange
		}
		best, found := p.best(c.order)
		if !found {
			return 0, api.ErrFull
		}
		p.give(api.BuBlock{Page: best.Page, Order: c.order})
		return best.Page, api.OK
	case allocAt:
		if !p.is(x) {
			return 0, api.ErrRange
		}
		if !p.empty(x) {
			return 0, api.ErrTwice
		}
		p.give(x)
	case free:
		if !p.is(x) {
			return 0, api.ErrRange
		}
		if !slices.Contains(p.given(), x) {
			return 0, api.ErrDown
		}
		p.take(x)
	}
	return 0, api.OK
}

// given returns the given blocks, ascending.
func (p *plain) given() []api.BuBlock {
	var l []api.BuBlock
	for page, taken := range p.taken {
		if taken && p.owner[page].Page == page {
			l = append(l, p.owner[page])
		}
	}
	return l
}

func (p *plain) state() api.BuState { return api.BuState{Order: p.order, Given: p.given()} }

// of returns the plain allocator with a state.
func of(s api.BuState) *plain {
	p := &plain{order: s.Order}
	for _, x := range s.Given {
		p.give(x)
	}
	return p
}

func same(a, b api.BuState) bool { return a.Order == b.Order && slices.Equal(a.Given, b.Given) }

// start returns a new allocator.
func start(t *testing.T, order int) *buddy.Buddy {
	t.Helper()
	b, e := buddy.New(order)
	if b == nil || e != api.OK {
		t.Fatalf("New(%d): %d", order, e)
	}
	return b
}

// load returns the allocator with the state s.
func load(t *testing.T, s api.BuState) *buddy.Buddy {
	t.Helper()
	b, e := buddy.Load(s)
	if b == nil || e != api.OK {
		t.Fatalf("Load(%v): %d", s, e)
	}
	return b
}

// do does a call of an allocator.
func do(b *buddy.Buddy, c call) (int, api.Errno) {
	switch c.kind {
	case alloc:
		return b.Alloc(c.order)
	case allocAt:
		return 0, b.AllocAt(c.page, c.order)
	}
	return 0, b.Free(c.page, c.order)
}

// both does a call of an allocator and of p, and ends the test if they do not do the same.
func both(t *testing.T, b *buddy.Buddy, p *plain, c call) (int, api.Errno) {
	t.Helper()
	before := p.state()
	page, want := p.do(c)
	if n, e := do(b, c); n != page || e != want {
		t.Fatalf("%v: %d, %d, not %d, %d, in the state %v", c, n, e, page, want, before)
	}
	return page, want
}

// is ends the test if an allocator is not p.
func is(t *testing.T, b *buddy.Buddy, p *plain) {
	t.Helper()
	if got, want := b.Save(), p.state(); !same(got, want) {
		t.Fatalf("the allocator is %v, not %v", got, want)
	}
	if got, want := blocks(t, b), p.blocks(); !slices.Equal(got, want) {
		t.Fatalf("the free blocks are %v, not %v, in the state %v", got, want, p.state())
	}
}

// blocks returns the free blocks of an allocator.
func blocks(t *testing.T, b *buddy.Buddy) []api.BuBlock {
	t.Helper()
	l, e := b.Blocks()
	if e != api.OK {
		t.Fatalf("Blocks: %d", e)
	}
	return l
}

func want(t *testing.T, e, want api.Errno, what string) {
	t.Helper()
	if e != want {
		t.Errorf("%s: %d, not %d", what, e, want)
	}
}

func source() *rand.Rand { return rand.New(rand.NewPCG(8, 8)) }

// odd are numbers that are neither pages nor orders.
func odd() []int {
	return []int{math.MinInt, math.MinInt + 1, math.MinInt32, -1024, -64, -2, -1, 1025, 1 << 20, math.MaxInt32, 1 << 32, 1 << 62, math.MaxInt - 1023, math.MaxInt - 1, math.MaxInt}
}

// lists returns all lists of given blocks inside of x that states may have, ascending.
func lists(x api.BuBlock) [][]api.BuBlock {
	if x.Order == 0 {
		return [][]api.BuBlock{nil, {x}}
	}
	half := api.BuBlock{Page: x.Page, Order: x.Order - 1}
	other := api.BuBlock{Page: x.Page + size(half), Order: x.Order - 1}
	l := [][]api.BuBlock{{x}}
	for _, a := range lists(half) {
		for _, b := range lists(other) {
			l = append(l, slices.Concat(a, b))
		}
	}
	return l
}

// small returns all states with the orders 0 to 3.
func small() []api.BuState {
	var l []api.BuState
	for order := range 4 {
		for _, given := range lists(api.BuBlock{Order: order}) {
			l = append(l, api.BuState{Order: order, Given: given})
		}
	}
	return l
}

// random returns a call that often is possible for p, with blocks that are mostly small.
func random(r *rand.Rand, p *plain) call {
	order := min(r.IntN(most+1), r.IntN(most+1), r.IntN(most+1))
	given := p.given()
	switch k := r.IntN(20); {
	case k == 0:
		return call{kind(r.IntN(3)), r.IntN(2*all) - all/2, r.IntN(15) - 2}
	case k < 7:
		return call{alloc, 0, order}
	case k < 11:
		return call{allocAt, r.IntN(power(p.order)) / power(order) * power(order), order}
	case k == 11 || len(given) == 0:
		return call{free, r.IntN(power(p.order)), order}
	}
	x := given[r.IntN(len(given))]
	return call{free, x.Page, x.Order}
}

// mixed returns allocators of all sorts.
func mixed() []*plain {
	r := source()
	var l []*plain
	for order := range most + 1 {
		half, ones, whole := &plain{order: order}, &plain{order: order}, &plain{order: order}
		for _, x := range half.all(0) {
			ones.give(x)
			if x.Page%2 == 1 {
				half.give(x)
			}
		}
		whole.give(api.BuBlock{Order: order})
		l = append(l, &plain{order: order}, half, ones, whole)
		for range 4 {
			p := &plain{order: order}
			for range 10 + power(order)/8 {
				p.do(random(r, p))
			}
			l = append(l, p)
		}
	}
	return l
}
