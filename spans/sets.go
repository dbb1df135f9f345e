package spans

import "polder/api"

// Union returns the pages that are in a or b.
func Union(a, b []api.SpSpan) ([]api.SpSpan, api.Errno) {
	if e := checkAll(a, b); e != api.OK {
		return nil, e
	}
	return join(1, a, b), api.OK
}

// Meet returns the pages that are in a and b.
func Meet(a, b []api.SpSpan) ([]api.SpSpan, api.Errno) {
	if e := checkAll(a, b); e != api.OK {
		return nil, e
	}
	return join(2, a, b), api.OK
}

// Minus returns the pages that are in a and not in b.
func Minus(a, b []api.SpSpan) ([]api.SpSpan, api.Errno) {
	if e := checkAll(a, b); e != api.OK {
		return nil, e
	}
	return join(2, a, rest(b)), api.OK
}

// Not returns the pages of in that are not in s.
func Not(s []api.SpSpan, in api.SpSpan) ([]api.SpSpan, api.Errno) {
	if e := checkWith(s, in); e != api.OK {
		return nil, e
	}
	return join(2, []api.SpSpan{in}, rest(s)), api.OK
}

// join returns the set of the pages that are in at least so many spans of the lists; these may have any order, and overlap.
func join(least int, lists ...[]api.SpSpan) []api.SpSpan {
	var steps [api.VmPages + 1]int // for each page, how many more spans have it than have the page before it
	for _, l := range lists {
		for _, x := range l {
			steps[x.Page]++
			steps[end(x)]--
		}
	}
	var joined []api.SpSpan
	from, depth := 0, 0
	for page, step := range steps {
		was := depth >= least
		depth += step
		is := depth >= least
		if is && !was {
			from = page
		}
		if was && !is {
			joined = append(joined, api.SpSpan{Page: from, Pages: page - from})
		}
	}
	return joined
}

// rest returns the pages that are not in the set s.
func rest(s []api.SpSpan) []api.SpSpan {
	var gaps []api.SpSpan
	from := 0
	for _, x := range s {
		if x.Page > from {
			gaps = append(gaps, api.SpSpan{Page: from, Pages: x.Page - from})
		}
		from = end(x)
	}
	if from < api.VmPages {
		gaps = append(gaps, api.SpSpan{Page: from, Pages: api.VmPages - from})
	}
	return gaps
}
