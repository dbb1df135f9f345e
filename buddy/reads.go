package buddy

import (
	"iter"

	"polder/api"
)

// Blocks returns the free blocks, ascending by Page.
func (b *Buddy) Blocks() ([]api.BuBlock, api.Errno) {
	if !b.isMade() {
		return nil, api.ErrNil
	}
	var l []api.BuBlock
	for x := range b.blocks() {
		l = append(l, x)
	}
	return l, api.OK
}

// Largest returns the greatest order of a free block.
func (b *Buddy) Largest() (int, api.Errno) {
	if !b.isMade() {
		return 0, api.ErrNil
	}
	for k := b.order; k >= 0; k-- {
		if len(b.free[k]) > 0 {
			return k, api.OK
		}
	}
	return 0, api.ErrNone
}

// Room returns how many blocks of an order can be given, one after the other.
func (b *Buddy) Room(order int) (int, api.Errno) {
	if e := b.checkOrder(order); e != api.OK {
		return 0, e
	}
	n := 0
	for k := order; k <= b.order; k++ {
		n += len(b.free[k]) * pages(k-order)
	}
	return n, api.OK
}

// Owner returns the given block that has a page.
func (b *Buddy) Owner(page int) (api.BuBlock, api.Errno) {
	if e := b.checkBlock(api.BuBlock{Page: page}); e != api.OK {
		return api.BuBlock{}, e
	}
	// It is the last one that does not begin behind the page, if it reaches so far.
	i, _ := b.find(page + 1)
	if i > 0 && around(page, b.given[i-1].Order) == b.given[i-1].Page {
		return b.given[i-1], api.OK
	}
	return api.BuBlock{}, api.ErrNone
}

// blocks yields the free blocks, ascending by Page.
func (b *Buddy) blocks() iter.Seq[api.BuBlock] {
	return func(yield func(api.BuBlock) bool) {
		var walk func(x api.BuBlock) bool
		walk = func(x api.BuBlock) bool {
			if b.free[x.Order].has(x.Page) {
				return yield(x)
			}
			if x.Order == 0 {
				return true
			}
			l := halves(x)
			return walk(l[0]) && walk(l[1])
		}
		walk(api.BuBlock{Order: b.order})
	}
}
