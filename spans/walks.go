package spans

import (
	"iter"
	"slices"

	"polder/api"
)

// Pages returns the pages of s, ascending; none if s is not a set.
func Pages(s []api.SpSpan) iter.Seq[int] {
	pieces := Pieces(s, 1)
	return func(yield func(int) bool) {
		for x := range pieces {
			if !yield(x.Page) {
				return
			}
		}
	}
}

// Pieces returns the spans that s falls into if it is cut at the multiples of size, ascending; none if s is not a set, or size not one that a piece may have.
func Pieces(s []api.SpSpan, size int) iter.Seq[api.SpSpan] {
	if Check(s) != api.OK || size < 1 || size > api.VmPages {
		return func(func(api.SpSpan) bool) {}
	}
	kept := slices.Clone(s) // the argument may have changed when the pieces are gone through
	return func(yield func(api.SpSpan) bool) {
		for _, x := range kept {
			for from := x.Page; from < end(x); {
				to := min(from-from%size+size, end(x))
				if !yield(api.SpSpan{Page: from, Pages: to - from}) {
					return
				}
				from = to
			}
		}
	}
}
