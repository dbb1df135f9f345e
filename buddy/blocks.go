package buddy

import (
	"slices"

	"polder/api"
)

// isOrder reports whether a range may have this order.
func isOrder(order int) bool { return order >= 0 && order <= api.MaxOrder }

// pages returns how many pages a block of an order has.
func pages(order int) int { return 1 << order }

// around returns where the block of an order begins that has a page.
func around(page, order int) int { return page &^ (pages(order) - 1) }

// inRange reports whether x is a block of the range of an order. (The last block of each order ends where the range does.)
func inRange(x api.BuBlock, order int) bool {
	return x.Order >= 0 && x.Order <= order && x.Page >= 0 && x.Page < pages(order) && around(x.Page, x.Order) == x.Page
}

// halves returns the two halves of a block with more than one page.
func halves(x api.BuBlock) [2]api.BuBlock {
	order := x.Order - 1
	return [2]api.BuBlock{{Page: x.Page, Order: order}, {Page: x.Page + pages(order), Order: order}}
}

// set is a set of blocks of one order: their pages, ascending.
type set []int

// has reports whether the block at a page is in s.
func (s set) has(page int) bool {
	_, found := slices.BinarySearch(s, page)
	return found
}

// add adds the block at a page, which is not in s.
func (s *set) add(page int) {
	i, _ := slices.BinarySearch(*s, page)
	*s = slices.Insert(*s, i, page)
}

// remove takes the block at a page out, which is in s.
func (s *set) remove(page int) {
	i, _ := slices.BinarySearch(*s, page)
	*s = slices.Delete(*s, i, i+1)
}
