package spans_test

import (
	"math"
	"math/rand/v2"
	"slices"

	"polder/api"
	"polder/spans"
)

// all is how many pages there are.
const all = 1024

// paged is a set that says of each page whether it is in it; everything is found page by page.
type paged [all]bool

func sp(page, pages int) api.SpSpan { return api.SpSpan{Page: page, Pages: pages} }

func list(l ...api.SpSpan) []api.SpSpan { return l }

// example is the set of the chapter's examples.
func example() []api.SpSpan { return list(sp(4, 4), sp(16, 20)) }

// marked returns the pages of some valid spans.
func marked(l ...api.SpSpan) *paged {
	var m paged
	for _, x := range l {
		for p := x.Page; p < x.Page+x.Pages; p++ {
			m[p] = true
		}
	}
	return &m
}

// spans returns the set as a list: its longest runs of pages.
func (m *paged) spans() []api.SpSpan {
	var l []api.SpSpan
	for p := range m {
		if m[p] && (p == 0 || !m[p-1]) {
			n := 0
			for p+n < all && m[p+n] {
				n++
			}
			l = append(l, sp(p, n))
		}
	}
	return l
}

// where returns the pages that are as asked.
func where(asked func(p int) bool) *paged {
	var m paged
	for p := range m {
		m[p] = asked(p)
	}
	return &m
}

// within returns how many pages of x are in m.
func (m *paged) within(x api.SpSpan) (n int) {
	for p := x.Page; p < x.Page+x.Pages; p++ {
		if m[p] {
			n++
		}
	}
	return n
}

// hasPlace reports whether a place for so many pages is at p.
func (m *paged) hasPlace(p, pages, align int) bool {
	if p%align != 0 || p+pages > all {
		return false
	}
	for q := p; q < p+pages; q++ {
		if !m[q] {
			return false
		}
	}
	return true
}

// found is what a search returns.
type found struct {
	at int
	e  api.Errno
}

func search(at int, e api.Errno) found { return found{at, e} }

func validPlace(pages, align int) bool {
	return pages >= 1 && pages <= all && slices.Contains([]int{1, 2, 4, 8, 16, 32, 64, 128, 256, 512, 1024}, align)
}

func (m *paged) first(pages, align int) found {
	if !validPlace(pages, align) {
		return found{0, api.ErrArg}
	}
	for p := range m {
		if m.hasPlace(p, pages, align) {
			return found{p, api.OK}
		}
	}
	return found{0, api.ErrNone}
}

func (m *paged) best(pages, align int) found {
	if !validPlace(pages, align) {
		return found{0, api.ErrArg}
	}
	best, least := found{0, api.ErrNone}, all+1
	for _, x := range m.spans() {
		for p := x.Page; p < x.Page+x.Pages; p++ {
			if x.Pages < least && m.hasPlace(p, pages, align) {
				best, least = found{p, api.OK}, x.Pages
			}
		}
	}
	return best
}

// pieces returns the runs of pages that a multiple of size ends too.
func (m *paged) pieces(size int) []api.SpSpan {
	var l []api.SpSpan
	for p := range m {
		if !m[p] {
			continue
		}
		if p%size != 0 && p > 0 && m[p-1] {
			l[len(l)-1].Pages++
		} else {
			l = append(l, sp(p, 1))
		}
	}
	return l
}

func source() *rand.Rand { return rand.New(rand.NewPCG(3, 3)) }

// short yields all sets of n pages that follow each other: the first ones, the last ones, and some between.
func short(n int) func(yield func(*paged) bool) {
	return func(yield func(*paged) bool) {
		for _, from := range []int{0, 509, all - n} {
			for number := range 1 << n {
				var m paged
				for i := range n {
					m[from+i] = number>>i&1 == 1
				}
				if !yield(&m) {
					return
				}
			}
		}
	}
}

// wide returns sets that have pages everywhere: uniform ones, ones with a single other page, those with the most spans, and ones with runs of random lengths.
func wide() []*paged {
	var l []*paged
	for _, in := range []bool{false, true} {
		l = append(l, where(func(int) bool { return in }))
		for _, q := range []int{0, 1, 2, 255, 511, 512, 1022, 1023} {
			l = append(l, where(func(p int) bool { return (p == q) != in }))
		}
	}
	l = append(l, where(func(p int) bool { return p%2 == 0 }), where(func(p int) bool { return p%2 == 1 }))
	r := source()
	for _, longest := range []int{1, 2, 5, 20, 70, 300} {
		for range 3 {
			l = append(l, random(r, longest))
		}
	}
	return l
}

// random returns a set whose runs, of pages in it and of others, have at most so many pages as stated.
func random(r *rand.Rand, longest int) *paged {
	var m paged
	in := r.IntN(2) == 0
	for p := 0; p < all; in = !in {
		for range 1 + r.IntN(longest) {
			if p < all {
				m[p] = in
				p++
			}
		}
	}
	return &m
}

// each calls f with all short sets of at most n pages, and with the wide ones.
func each(n int, f func(*paged)) {
	for m := range short(n) {
		f(m)
	}
	for _, m := range wide() {
		f(m)
	}
}

// pairs calls f with all pairs of short sets of at most n pages in one place, and with pairs of wide ones.
func pairs(n int, f func(a, b *paged)) {
	sets := slices.Collect(short(n))
	for i, a := range sets {
		for j, b := range sets {
			if i>>n == j>>n {
				f(a, b)
			}
		}
	}
	for _, a := range wide() {
		for _, b := range wide() {
			f(a, b)
		}
	}
}

// numbers are ones at the ends of what is allowed, and beyond.
func numbers() []int {
	return []int{math.MinInt, math.MinInt + 1, -1024, -2, -1, 0, 1, 2, 3, 511, 512, 513, 1022, 1023, 1024, 1025, 2048, math.MaxInt - 1, math.MaxInt}
}

// invalidSpans are spans that are not valid.
func invalidSpans() []api.SpSpan {
	l := list(sp(0, 0), sp(4, 0), sp(4, -1), sp(1023, 0), sp(1023, 2), sp(1024, 1), sp(1024, 0), sp(1025, -1), sp(-1, 1), sp(-1, 2), sp(-1, 1025), sp(0, 1025), sp(1, 1024), sp(512, 513))
	for _, n := range []int{math.MinInt, math.MinInt + 1, math.MaxInt - 1, math.MaxInt} {
		l = append(l, sp(n, 1), sp(0, n), sp(1, n), sp(n, n), sp(n, math.MaxInt), sp(math.MaxInt, n), sp(n, math.MinInt), sp(1023, n), sp(n, 1024))
	}
	return l
}

// noSet is a list that is no set, with the error of Check.
type noSet struct {
	s []api.SpSpan
	e api.Errno
}

func noSets() []noSet {
	l := []noSet{
		{make([]api.SpSpan, 513), api.ErrLong},
		{slices.Repeat(list(sp(4, 4)), 513), api.ErrLong},
		{slices.Repeat(list(sp(-1, 4)), 2001), api.ErrLong},
		{list(sp(4, 4), sp(8, 1)), api.ErrForm},
		{list(sp(4, 4), sp(7, 1)), api.ErrForm},
		{list(sp(4, 4), sp(4, 4)), api.ErrForm},
		{list(sp(4, 4), sp(0, 1)), api.ErrForm},
		{list(sp(4, 4), sp(3, 1)), api.ErrForm},
		{list(sp(0, 1), sp(1, 1)), api.ErrForm},
		{list(sp(0, 1024), sp(0, 1024)), api.ErrForm},
		{list(sp(0, 1023), sp(1023, 1)), api.ErrForm},
		{list(sp(0, 1), sp(2, 1), sp(3, 1)), api.ErrForm},
		{list(sp(2, 1), sp(0, 1), sp(4, 1)), api.ErrForm},
		{list(sp(0, 2), sp(8, 2), sp(4, 2)), api.ErrForm},
		{list(sp(4, 4), sp(8, 1), sp(20, 0)), api.ErrRange},
		{list(sp(20, 0), sp(4, 4), sp(8, 1)), api.ErrRange},
		{make([]api.SpSpan, 512), api.ErrRange},
		{slices.Repeat(list(sp(4, 4)), 512), api.ErrForm},
	}
	for _, x := range invalidSpans() {
		l = append(l, noSet{list(x), api.ErrRange}, noSet{list(sp(0, 1), x), api.ErrRange}, noSet{list(x, sp(1000, 1)), api.ErrRange})
	}
	return l
}

// calls returns what every function but Check and Of returns for s, with other arguments that may be anything.
func calls(s []api.SpSpan, x api.SpSpan, pages, align int) map[string]found {
	union, e1 := spans.Union(s, list(x))
	meet, e2 := spans.Meet(s, list(x))
	minus, e3 := spans.Minus(s, list(x))
	not, e4 := spans.Not(s, x)
	has, e5 := spans.Has(s, x)
	meets, e6 := spans.Meets(s, x)
	truth := map[bool]int{true: 1}
	return map[string]found{
		"Union": {len(union), e1}, "Meet": {len(meet), e2}, "Minus": {len(minus), e3}, "Not": {len(not), e4},
		"Has": {truth[has], e5}, "Meets": {truth[meets], e6},
		"Count": search(spans.Count(s)), "First": search(spans.First(s, pages, align)), "Best": search(spans.Best(s, pages, align)),
	}
}
