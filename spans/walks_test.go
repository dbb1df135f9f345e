package spans_test

import (
	"slices"
	"testing"

	"polder/api"
	"polder/spans"
)

// P3.5

func TestP3_5Pages(t *testing.T) {
	each(8, func(m *paged) {
		var want []int
		for p, in := range m {
			if in {
				want = append(want, p)
			}
		}
		if got := slices.Collect(spans.Pages(m.spans())); !slices.Equal(got, want) {
			t.Fatalf("Pages(%v): %v, want %v", m.spans(), got, want)
		}
	})
}

func TestP3_5Pieces(t *testing.T) {
	for m := range short(8) {
		for _, size := range []int{1, 2, 3, 4, 5, 8, 11, 1023, 1024} {
			if got := slices.Collect(spans.Pieces(m.spans(), size)); !slices.Equal(got, m.pieces(size)) {
				t.Fatalf("Pieces(%v, %d): %v, want %v", m.spans(), size, got, m.pieces(size))
			}
		}
	}
	for _, m := range wide() {
		for size := 1; size <= all; size++ {
			if got := slices.Collect(spans.Pieces(m.spans(), size)); !slices.Equal(got, m.pieces(size)) {
				t.Fatalf("Pieces(%v, %d): %v, want %v", m.spans(), size, got, m.pieces(size))
			}
		}
	}
}

// There is a sequence for any arguments, and nothing in it if they are not valid.
func TestP3_5Invalid(t *testing.T) {
	empty := func(what string, pages func(func(int) bool), pieces func(func(api.SpSpan) bool)) {
		t.Helper()
		if pages == nil || pieces == nil {
			t.Fatalf("%s: no sequence", what)
		}
		for p := range pages {
			t.Errorf("%s: the page %d", what, p)
		}
		for x := range pieces {
			t.Errorf("%s: the piece %v", what, x)
		}
	}
	none := spans.Pages(nil)
	for _, c := range noSets() {
		for _, size := range numbers() {
			empty("no set", spans.Pages(c.s), spans.Pieces(c.s, size))
		}
	}
	for _, size := range numbers() {
		empty("no spans", none, spans.Pieces(nil, size))
		empty("no spans", spans.Pages(list()), spans.Pieces(list(), size))
		if size < 1 || size > all {
			empty("no size", none, spans.Pieces(example(), size))
		}
	}
}

func TestP3_5Again(t *testing.T) {
	pages, pieces := spans.Pages(example()), spans.Pieces(example(), 6)
	want := slices.Collect(spans.Pages(example()))
	wantPieces := list(sp(4, 2), sp(6, 2), sp(16, 2), sp(18, 6), sp(24, 6), sp(30, 6))
	for i := range 4 {
		if got := slices.Collect(pages); !slices.Equal(got, want) {
			t.Errorf("the pages are %v", got)
		}
		if got := slices.Collect(pieces); !slices.Equal(got, wantPieces) {
			t.Errorf("the pieces are %v", got)
		}
		for range pages { // what was ended early begins anew
			break
		}
		for x := range pieces {
			if x.Page >= 6*i {
				break
			}
		}
	}
}

// A sequence may be gone through while it is.
func TestP3_5Nested(t *testing.T) {
	pages, pieces := spans.Pages(example()), spans.Pieces(example(), 5)
	n := 0
	for p := range pages {
		for q := range pages {
			if q <= p {
				n++
			}
		}
	}
	if n != 24*25/2 {
		t.Errorf("%d pairs of pages", n)
	}
	n = 0
	for x := range pieces {
		for y := range pieces {
			if y.Page <= x.Page {
				n++
			}
		}
	}
	if k := len(slices.Collect(pieces)); n != k*(k+1)/2 {
		t.Errorf("%d pairs of %d pieces", n, k)
	}
}

// After a loop has ended, at any place, nothing more is yielded.
func TestP3_5Early(t *testing.T) {
	for most := 1; most <= 25; most++ {
		n := 0
		spans.Pages(example())(func(int) bool { n++; return n < most })
		if n != min(most, 24) {
			t.Errorf("%d pages were yielded, %d were wanted", n, most)
		}
		for _, size := range []int{1, 3, 16, 1024} {
			n = 0
			spans.Pieces(example(), size)(func(api.SpSpan) bool { n++; return n < most })
			if k := len(slices.Collect(spans.Pieces(example(), size))); n != min(most, k) {
				t.Errorf("%d of %d pieces were yielded, %d were wanted", n, k, most)
			}
		}
	}
}

// P3.8

// The sequence keeps nothing of the set it was made of.
func TestP3_8Kept(t *testing.T) {
	s := example()
	pages, pieces := spans.Pages(s), spans.Pieces(s, 16)
	n := 0
	for p := range pages {
		s[0], s[1] = sp(500, 1), sp(0, -1)
		n += p
	}
	if want := 4 + 5 + 6 + 7 + 20*16 + 190; n != want {
		t.Errorf("the sum of the pages is %d, want %d", n, want)
	}
	if l := slices.Collect(pieces); !slices.Equal(l, list(sp(4, 4), sp(16, 16), sp(32, 4))) {
		t.Errorf("the pieces are %v", l)
	}
}
