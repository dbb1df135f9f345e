package spans

import (
	"iter"

	"polder/api"
)

// First returns the least place for so many pages with this alignment in s.
func First(s []api.SpSpan, pages, align int) (int, api.Errno) {
	if e := checkPlace(s, pages, align); e != api.OK {
		return 0, e
	}
	for p := range places(s, pages, align) {
		return p, api.OK
	}
	return 0, api.ErrNone
}

// Best returns the least place for so many pages with this alignment that lies in a span of s with as few pages as possible.
func Best(s []api.SpSpan, pages, align int) (int, api.Errno) {
	if e := checkPlace(s, pages, align); e != api.OK {
		return 0, e
	}
	best, least := 0, api.VmPages+1
	for p, x := range places(s, pages, align) {
		if x.Pages < least {
			best, least = p, x.Pages
		}
	}
	if least > api.VmPages {
		return 0, api.ErrNone
	}
	return best, api.OK
}

// checkPlace returns what is wrong with s, or with the place that is sought in it.
func checkPlace(s []api.SpSpan, pages, align int) api.Errno {
	if e := Check(s); e != api.OK {
		return e
	}
	if pages < 1 || pages > api.VmPages {
		return api.ErrArg
	}
	if align < 1 || align > api.VmPages || align&(align-1) != 0 {
		return api.ErrArg
	}
	return api.OK
}

// places yields the least place in each span of s that has one, and this span, ascending.
func places(s []api.SpSpan, pages, align int) iter.Seq2[int, api.SpSpan] {
	return func(yield func(int, api.SpSpan) bool) {
		for _, x := range s {
			p := (x.Page + align - 1) &^ (align - 1)
			if p+pages <= end(x) && !yield(p, x) {
				return
			}
		}
	}
}
