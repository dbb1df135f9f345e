package spans_test

import (
	"math"
	"slices"
	"testing"

	"polder/api"
	"polder/spans"
)

// aligns are the alignments there may be.
func aligns() []int { return []int{1, 2, 4, 8, 16, 32, 64, 128, 256, 512, 1024} }

// P3.4

func TestP3_4Places(t *testing.T) {
	check := func(m *paged, pages, align int) {
		if got, want := search(spans.First(m.spans(), pages, align)), m.first(pages, align); got != want {
			t.Fatalf("First(%v, %d, %d): %v, want %v", m.spans(), pages, align, got, want)
		}
		if got, want := search(spans.Best(m.spans(), pages, align)), m.best(pages, align); got != want {
			t.Fatalf("Best(%v, %d, %d): %v, want %v", m.spans(), pages, align, got, want)
		}
	}
	for m := range short(7) {
		for pages := range 9 {
			for _, align := range []int{1, 2, 4, 8} {
				check(m, pages, align)
			}
		}
	}
	for _, m := range wide() {
		for _, pages := range []int{1, 2, 3, 7, 16, 31, 100, 511, 512, 513, 1022, 1023, 1024} {
			for _, align := range aligns() {
				check(m, pages, align)
			}
		}
	}
}

func TestP3_4Arguments(t *testing.T) {
	everything, nothing := list(sp(0, all)), list()
	for n := -3; n <= 2100; n++ {
		want := api.ErrArg
		if slices.Contains(aligns(), n) {
			want = api.OK
		}
		for _, f := range []func([]api.SpSpan, int, int) (int, api.Errno){spans.First, spans.Best} {
			if p, e := f(everything, 1, n); p != 0 || e != want {
				t.Errorf("aligned to %d: %d, %d, want %d", n, p, e, want)
			}
		}
	}
	for _, n := range numbers() {
		want := api.ErrArg
		if n >= 1 && n <= all {
			want = api.OK
		}
		for _, f := range []func([]api.SpSpan, int, int) (int, api.Errno){spans.First, spans.Best} {
			if p, e := f(everything, n, 1024); p != 0 || e != want {
				t.Errorf("%d pages: %d, %d, want %d", n, p, e, want)
			}
			if p, e := f(nothing, n, 1); p != 0 || e != map[bool]api.Errno{true: api.ErrNone, false: api.ErrArg}[want == api.OK] {
				t.Errorf("%d pages of none: %d, %d", n, p, e)
			}
			if p, e := f(everything, 1, -max(n, 1)); p != 0 || e != api.ErrArg {
				t.Errorf("aligned to %d: %d, %d, want ErrArg", -max(n, 1), p, e)
			}
		}
	}
	if p, e := spans.First(everything, 1, math.MinInt); p != 0 || e != api.ErrArg { // it has a single bit, too
		t.Errorf("aligned to the least number: %d, %d", p, e)
	}
}

// A span may have a place though the one before it has none, because of the alignment, and Best takes the smallest span, the first of several.
func TestP3_4Spans(t *testing.T) {
	s := list(sp(1, 14), sp(17, 9), sp(31, 6), sp(47, 6), sp(61, 3))
	for _, c := range []struct{ pages, align, first, best int }{
		{1, 1, 1, 61}, {3, 1, 1, 61}, {4, 1, 1, 31}, {4, 16, 32, 32}, {5, 32, 32, 32}, {1, 64, -1, -1},
		{2, 4, 4, 32}, {6, 1, 1, 31}, {7, 1, 1, 17}, {10, 1, 1, 1}, {8, 8, -1, -1}, {7, 8, 8, 8}, {15, 1, -1, -1}, {5, 16, 32, 32}, {2, 16, 32, 32}, {3, 2, 2, 32}, {6, 2, 2, 18},
	} {
		first, best := found{c.first, api.OK}, found{c.best, api.OK}
		if c.first < 0 {
			first, best = found{0, api.ErrNone}, found{0, api.ErrNone}
		}
		if got := search(spans.First(s, c.pages, c.align)); got != first {
			t.Errorf("First of %d pages, aligned to %d: %v, want %v", c.pages, c.align, got, first)
		}
		if got := search(spans.Best(s, c.pages, c.align)); got != best {
			t.Errorf("Best of %d pages, aligned to %d: %v, want %v", c.pages, c.align, got, best)
		}
	}
}

// P3.7

func TestP3_7Places(t *testing.T) {
	for _, m := range append(wide(), slices.Collect(short(5))...) {
		s := m.spans()
		for _, pages := range []int{1, 2, 3, 5, 16, 40, 512} {
			for _, align := range aligns() {
				first, e := spans.First(s, pages, align)
				best, e1 := spans.Best(s, pages, align)
				if e != e1 {
					t.Fatalf("%v, %d, %d: First %d, Best %d", s, pages, align, e, e1)
				}
				span := marked(s...).around(best)
				for p := range all {
					if !m.hasPlace(p, pages, align) {
						if e == api.OK && (p == first || p == best) {
							t.Fatalf("%v, %d, %d: %d is no place", s, pages, align, p)
						}
					} else if e != api.OK || p < first || m.around(p).Pages < span.Pages {
						t.Fatalf("%v, %d, %d: %d is a place, First is %d, Best %d, %d", s, pages, align, p, first, best, e)
					}
				}
			}
		}
	}
}

// around returns the run of pages that has p, and an empty span if p is not in m.
func (m *paged) around(p int) api.SpSpan {
	from, to := p, p
	for from > 0 && m[p] && m[from-1] {
		from--
	}
	for to < all && m[to] {
		to++
	}
	return sp(from, to-from)
}
