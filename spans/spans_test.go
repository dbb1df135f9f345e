package spans_test

import (
	"math"
	"slices"
	"testing"

	"polder/api"
	"polder/spans"
)

func TestExamples(t *testing.T) {
	if e := spans.Check(example()); e != api.OK {
		t.Errorf("Check of S: %d", e)
	}
	if e := spans.Check(list(sp(4, 4), sp(8, 1))); e != api.ErrForm {
		t.Errorf("Check of 4, 4 and 8, 1: %d", e)
	}
	for name, c := range map[string]struct {
		f    func() ([]api.SpSpan, api.Errno)
		want []api.SpSpan
	}{
		"Of":    {func() ([]api.SpSpan, api.Errno) { return spans.Of(list(sp(6, 4), sp(2, 3), sp(5, 1))) }, list(sp(2, 8))},
		"Union": {func() ([]api.SpSpan, api.Errno) { return spans.Union(example(), list(sp(8, 8))) }, list(sp(4, 32))},
		"Meet":  {func() ([]api.SpSpan, api.Errno) { return spans.Meet(example(), list(sp(6, 12))) }, list(sp(6, 2), sp(16, 2))},
		"Minus": {func() ([]api.SpSpan, api.Errno) { return spans.Minus(example(), list(sp(6, 12))) }, list(sp(4, 2), sp(18, 18))},
		"Not":   {func() ([]api.SpSpan, api.Errno) { return spans.Not(example(), sp(0, 16)) }, list(sp(0, 4), sp(8, 8))},
	} {
		if l, e := c.f(); e != api.OK || !slices.Equal(l, c.want) {
			t.Errorf("%s: %v, %d, want %v", name, l, e, c.want)
		}
	}
	has, _ := spans.Has(example(), sp(4, 4))
	hasNot, _ := spans.Has(example(), sp(7, 2))
	meets, _ := spans.Meets(example(), sp(7, 2))
	if !has || hasNot || !meets {
		t.Errorf("Has, Has, Meets: %v, %v, %v", has, hasNot, meets)
	}
	if n, e := spans.Count(example()); n != 24 || e != api.OK {
		t.Errorf("Count: %d, %d", n, e)
	}
	if l := slices.Collect(spans.Pieces(example(), 16)); !slices.Equal(l, list(sp(4, 4), sp(16, 16), sp(32, 4))) {
		t.Errorf("Pieces: %v", l)
	}
}

func TestExamplesOfPlaces(t *testing.T) {
	for _, c := range []struct {
		pages, align int
		want         found
	}{{2, 4, found{4, api.OK}}, {8, 8, found{16, api.OK}}, {4, 32, found{32, api.OK}}, {21, 1, found{0, api.ErrNone}}} {
		if got := search(spans.First(example(), c.pages, c.align)); got != c.want {
			t.Errorf("First of %d pages, aligned to %d: %v, want %v", c.pages, c.align, got, c.want)
		}
	}
	if p, e := spans.Best(example(), 4, 1); p != 4 || e != api.OK {
		t.Errorf("Best: %d, %d", p, e)
	}
}

// P3.1

func TestP3_1Check(t *testing.T) {
	each(9, func(m *paged) {
		if e := spans.Check(m.spans()); e != api.OK {
			t.Fatalf("Check(%v): %d", m.spans(), e)
		}
	})
	for _, s := range [][]api.SpSpan{nil, {}} {
		if e := spans.Check(s); e != api.OK {
			t.Errorf("Check of no spans: %d", e)
		}
	}
	for _, c := range noSets() {
		if e := spans.Check(c.s); e != c.e {
			t.Errorf("Check(%v): %d, want %d", c.s, e, c.e)
		}
	}
}

// Of two spans, valid or not, every form is right or wrong as their pages say.
func TestP3_1CheckPairs(t *testing.T) {
	for _, base := range []int{0, 500, 1014} {
		for a := range 11 {
			for n := range 12 - a {
				for b := range 11 {
					for k := range 12 - b {
						x, y := sp(base+a, n), sp(base+b, k)
						want := api.OK
						if n == 0 || k == 0 || base+a+n > all || base+b+k > all {
							want = api.ErrRange
						} else if b < a+n+1 {
							want = api.ErrForm
						}
						if e := spans.Check(list(x, y)); e != want {
							t.Fatalf("Check(%v, %v): %d, want %d", x, y, e, want)
						}
					}
				}
			}
		}
	}
}

// The most spans that a set can have are those of every other page.
func TestP3_1Most(t *testing.T) {
	for _, bit := range []int{0, 1} {
		s := where(func(p int) bool { return p%2 == bit }).spans()
		if len(s) != 512 {
			t.Fatalf("%d spans", len(s))
		}
		if e := spans.Check(s); e != api.OK {
			t.Errorf("Check of 512 spans: %d", e)
		}
		if l, e := spans.Of(s); e != api.OK || !slices.Equal(l, s) {
			t.Errorf("Of 512 spans: %v, %d", l, e)
		}
	}
}

// Every function returns the error of Check first, and nothing beside it.
func TestP3_1CheckFirst(t *testing.T) {
	for _, c := range noSets() {
		for _, x := range list(sp(0, 1), sp(0, 1024), sp(0, 0), sp(math.MaxInt, math.MaxInt)) {
			for _, n := range []int{0, 1, 2, 1025} {
				for name, got := range calls(c.s, x, n, n) {
					if got != (found{0, c.e}) {
						t.Fatalf("%s of %v: %v, want the error %d", name, c.s, got, c.e)
					}
				}
			}
		}
	}
}

func TestP3_1Of(t *testing.T) {
	r := source()
	for range 3000 {
		l := make([]api.SpSpan, r.IntN(8))
		most := []int{3, 9, 100, all}[r.IntN(4)]
		for i := range l {
			page := r.IntN(all)
			l[i] = sp(page, 1+r.IntN(min(most, all-page)))
			if r.IntN(4) == 0 && i > 0 && l[i-1].Page+l[i-1].Pages < all { // next to the one before it
				l[i] = sp(l[i-1].Page+l[i-1].Pages, 1)
			}
		}
		if got, e := spans.Of(l); e != api.OK || !slices.Equal(got, marked(l...).spans()) {
			t.Fatalf("Of(%v): %v, %d, want %v", l, got, e, marked(l...).spans())
		}
	}
}

// All lists of up to three spans of a few pages, in any order.
func TestP3_1OfShort(t *testing.T) {
	var some []api.SpSpan
	for page := range 5 {
		for n := 1; n <= 5-page; n++ {
			some = append(some, sp(page+1019, n))
		}
	}
	for _, a := range some {
		for _, b := range some {
			for _, c := range some {
				for _, l := range [][]api.SpSpan{{a}, {a, b}, {a, b, c}} {
					if got, e := spans.Of(l); e != api.OK || !slices.Equal(got, marked(l...).spans()) {
						t.Fatalf("Of(%v): %v, %d, want %v", l, got, e, marked(l...).spans())
					}
				}
			}
		}
	}
}

func TestP3_1OfMany(t *testing.T) {
	many := make([]api.SpSpan, 2000)
	for i := range many {
		many[i] = sp((i*7)%1000, 1+i%3)
	}
	if got, e := spans.Of(many); e != api.OK || !slices.Equal(got, marked(many...).spans()) {
		t.Errorf("Of 2000 spans: %v, %d", got, e)
	}
	if got, e := spans.Of(slices.Repeat(list(sp(3, 5)), 2000)); e != api.OK || !slices.Equal(got, list(sp(3, 5))) {
		t.Errorf("Of 2000 equal spans: %v, %d", got, e)
	}
	for _, s := range [][]api.SpSpan{nil, {}} {
		if got, e := spans.Of(s); e != api.OK || len(got) != 0 {
			t.Errorf("Of no spans: %v, %d", got, e)
		}
	}
}

func TestP3_1OfInvalid(t *testing.T) {
	if got, e := spans.Of(slices.Repeat(list(sp(3, 5)), 2001)); e != api.ErrLong || len(got) != 0 {
		t.Errorf("Of 2001 spans: %v, %d", got, e)
	}
	if got, e := spans.Of(make([]api.SpSpan, 2001)); e != api.ErrLong || len(got) != 0 {
		t.Errorf("Of 2001 invalid spans: %v, %d", got, e)
	}
	if got, e := spans.Of(make([]api.SpSpan, 2000)); e != api.ErrRange || len(got) != 0 {
		t.Errorf("Of 2000 invalid spans: %v, %d", got, e)
	}
	for _, x := range invalidSpans() {
		for _, l := range [][]api.SpSpan{{x}, {x, sp(4, 4)}, {sp(4, 4), x}, {sp(4, 4), x, sp(4, 4)}} {
			if got, e := spans.Of(l); e != api.ErrRange || len(got) != 0 {
				t.Errorf("Of(%v): %v, %d, want ErrRange", l, got, e)
			}
		}
	}
}

// P3.3

// asks are spans to ask for: all of a few pages at the places of the short sets, and some with many pages.
func asks() []api.SpSpan {
	l := list(sp(0, 1024), sp(0, 512), sp(512, 512), sp(1, 1022), sp(0, 1023), sp(1, 1023), sp(500, 30))
	for _, base := range []int{0, 508, all - 8} {
		for page := range 8 {
			for n := 1; n <= 8-page; n++ {
				l = append(l, sp(base+page, n))
			}
		}
	}
	return l
}

func TestP3_3Asks(t *testing.T) {
	each(7, func(m *paged) {
		s := m.spans()
		for _, x := range asks() {
			n := m.within(x)
			if is, e := spans.Has(s, x); e != api.OK || is != (n == x.Pages) {
				t.Fatalf("Has(%v, %v): %v, %d", s, x, is, e)
			}
			if is, e := spans.Meets(s, x); e != api.OK || is != (n > 0) {
				t.Fatalf("Meets(%v, %v): %v, %d", s, x, is, e)
			}
		}
	})
}

func TestP3_3AsksInvalid(t *testing.T) {
	for _, s := range [][]api.SpSpan{nil, example(), list(sp(0, 1024))} {
		for _, x := range invalidSpans() {
			if is, e := spans.Has(s, x); e != api.ErrRange || is {
				t.Errorf("Has(%v, %v): %v, %d, want ErrRange", s, x, is, e)
			}
			if is, e := spans.Meets(s, x); e != api.ErrRange || is {
				t.Errorf("Meets(%v, %v): %v, %d, want ErrRange", s, x, is, e)
			}
		}
	}
}

func TestP3_3Count(t *testing.T) {
	each(9, func(m *paged) {
		if n, e := spans.Count(m.spans()); e != api.OK || n != m.within(sp(0, all)) {
			t.Fatalf("Count(%v): %d, %d", m.spans(), n, e)
		}
	})
}
