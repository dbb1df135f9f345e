package spans_test

import (
	"slices"
	"testing"

	"polder/api"
	"polder/spans"
)

func joins() map[string]func(a, b []api.SpSpan) ([]api.SpSpan, api.Errno) {
	return map[string]func(a, b []api.SpSpan) ([]api.SpSpan, api.Errno){"Union": spans.Union, "Meet": spans.Meet, "Minus": spans.Minus}
}

// joined returns what a join of two sets has.
func joined(name string, a, b *paged) *paged {
	switch name {
	case "Union":
		return where(func(p int) bool { return a[p] || b[p] })
	case "Meet":
		return where(func(p int) bool { return a[p] && b[p] })
	}
	return where(func(p int) bool { return a[p] && !b[p] })
}

// must returns a set, and ends the test if there is an error beside it or it is none.
func must(t *testing.T) func(l []api.SpSpan, e api.Errno) []api.SpSpan {
	return func(l []api.SpSpan, e api.Errno) []api.SpSpan {
		t.Helper()
		if e != api.OK {
			t.Fatalf("error %d", e)
		}
		if e := spans.Check(l); e != api.OK {
			t.Fatalf("%v is no set: %d", l, e)
		}
		return l
	}
}

// P3.2

func TestP3_2Joins(t *testing.T) {
	pairs(5, func(a, b *paged) {
		for name, f := range joins() {
			want := joined(name, a, b).spans()
			if got, e := f(a.spans(), b.spans()); e != api.OK || !slices.Equal(got, want) {
				t.Fatalf("%s(%v, %v): %v, %d, want %v", name, a.spans(), b.spans(), got, e, want)
			}
		}
	})
}

// A list may be nil or empty.
func TestP3_2NoSpans(t *testing.T) {
	for _, none := range [][]api.SpSpan{nil, {}} {
		for name, f := range joins() {
			left, right := example(), example()
			switch name {
			case "Meet":
				left, right = nil, nil
			case "Minus":
				left = nil
			}
			if got, e := f(none, example()); e != api.OK || !slices.Equal(got, left) {
				t.Errorf("%s of nothing and S: %v, %d", name, got, e)
			}
			if got, e := f(example(), none); e != api.OK || !slices.Equal(got, right) {
				t.Errorf("%s of S and nothing: %v, %d", name, got, e)
			}
			if got, e := f(none, none); e != api.OK || len(got) != 0 {
				t.Errorf("%s of nothing: %v, %d", name, got, e)
			}
		}
		if got, e := spans.Not(none, sp(3, 9)); e != api.OK || !slices.Equal(got, list(sp(3, 9))) {
			t.Errorf("Not of nothing: %v, %d", got, e)
		}
	}
}

func TestP3_2Not(t *testing.T) {
	each(7, func(m *paged) {
		for _, x := range asks() {
			in := marked(x)
			want := where(func(p int) bool { return in[p] && !m[p] }).spans()
			if got, e := spans.Not(m.spans(), x); e != api.OK || !slices.Equal(got, want) {
				t.Fatalf("Not(%v, %v): %v, %d, want %v", m.spans(), x, got, e, want)
			}
		}
	})
}

func TestP3_2NotInvalid(t *testing.T) {
	for _, s := range [][]api.SpSpan{nil, example(), list(sp(0, 1024))} {
		for _, x := range invalidSpans() {
			if got, e := spans.Not(s, x); e != api.ErrRange || len(got) != 0 {
				t.Errorf("Not(%v, %v): %v, %d, want ErrRange", s, x, got, e)
			}
		}
	}
}

// The error for a comes before that for b.
func TestP3_2Invalid(t *testing.T) {
	long, form, outside := make([]api.SpSpan, 513), list(sp(4, 4), sp(8, 1)), list(sp(0, 0))
	for name, f := range joins() {
		for _, c := range []struct {
			a, b []api.SpSpan
			e    api.Errno
		}{
			{long, form, api.ErrLong}, {form, long, api.ErrForm},
			{long, outside, api.ErrLong}, {outside, long, api.ErrRange},
			{form, outside, api.ErrForm}, {outside, form, api.ErrRange},
		} {
			if got, e := f(c.a, c.b); e != c.e || len(got) != 0 {
				t.Errorf("%s: %v, %d, want the error %d", name, got, e, c.e)
			}
		}
		for _, c := range noSets() {
			for _, s := range [][]api.SpSpan{nil, example()} {
				if got, e := f(c.s, s); e != c.e || len(got) != 0 {
					t.Errorf("%s(%v, ..): %v, %d, want the error %d", name, c.s, got, e, c.e)
				}
				if got, e := f(s, c.s); e != c.e || len(got) != 0 {
					t.Errorf("%s(.., %v): %v, %d, want the error %d", name, c.s, got, e, c.e)
				}
			}
		}
	}
}

// P3.6

// Each page of the results is asked for alone.
func TestP3_6Pages(t *testing.T) {
	ok := must(t)
	in := func(s []api.SpSpan, p int) bool {
		is, e := spans.Has(s, sp(p, 1))
		if e != api.OK {
			t.Fatalf("Has(%v, %d): %d", s, p, e)
		}
		return is
	}
	for i, m := range wide() {
		n := wide()[(i*5+3)%len(wide())]
		a, b := m.spans(), n.spans()
		union, meet, minus, not := ok(spans.Union(a, b)), ok(spans.Meet(a, b)), ok(spans.Minus(a, b)), ok(spans.Not(a, sp(100, 800)))
		for p := range all {
			if in(union, p) != (m[p] || n[p]) || in(meet, p) != (m[p] && n[p]) || in(minus, p) != (m[p] && !n[p]) {
				t.Fatalf("%v, %v: the page %d is not in the joins as it ought to be", a, b, p)
			}
			if in(not, p) != (p >= 100 && p < 900 && !m[p]) {
				t.Fatalf("%v: the page %d is not in Not as it ought to be", a, p)
			}
		}
	}
}

func TestP3_6Laws(t *testing.T) {
	ok := must(t)
	every := sp(0, all)
	pairs(4, func(m, n *paged) {
		a, b := m.spans(), n.spans()
		notA, notB := ok(spans.Not(a, every)), ok(spans.Not(b, every))
		if x, y := ok(spans.Minus(a, b)), ok(spans.Meet(a, notB)); !slices.Equal(x, y) {
			t.Fatalf("%v, %v: Minus is %v, Meet with Not %v", a, b, x, y)
		}
		union, meet := ok(spans.Union(a, b)), ok(spans.Meet(a, b))
		if x, y := ok(spans.Not(union, every)), ok(spans.Meet(notA, notB)); !slices.Equal(x, y) {
			t.Fatalf("%v, %v: Not of Union is %v, Meet of both Nots %v", a, b, x, y)
		}
		if x := ok(spans.Union(a, meet)); !slices.Equal(x, a) {
			t.Fatalf("%v, %v: Union with a part is %v", a, b, x)
		}
		if x := ok(spans.Meet(a, union)); !slices.Equal(x, a) {
			t.Fatalf("%v, %v: Meet with what contains it is %v", a, b, x)
		}
		if x := ok(spans.Not(notA, every)); !slices.Equal(x, a) {
			t.Fatalf("%v: Not twice is %v", a, x)
		}
	})
}

// P3.8

// makers are the functions that return spans, as functions of two sets.
func makers() map[string]func(a, b []api.SpSpan) ([]api.SpSpan, api.Errno) {
	l := joins()
	l["Of"] = func(a, b []api.SpSpan) ([]api.SpSpan, api.Errno) { return spans.Of(a) }
	l["Not"] = func(a, b []api.SpSpan) ([]api.SpSpan, api.Errno) { return spans.Not(b, sp(0, 900)) }
	return l
}

func TestP3_8NewMemory(t *testing.T) {
	for name, f := range makers() {
		for _, other := range [][]api.SpSpan{nil, list(sp(0, 1024)), list(sp(6, 12)), example()} {
			a, b := example(), slices.Clone(other)
			first, _ := f(a, b)
			second, _ := f(a, b)
			kept := slices.Clone(first)
			for _, l := range [][]api.SpSpan{a, b, second} {
				for i := range l {
					l[i] = sp(1000+i, 7)
				}
			}
			if !slices.Equal(first, kept) {
				t.Errorf("%s: the result changed to %v from %v", name, first, kept)
			}
		}
	}
}

// Spans that lie beyond those of an argument, in the same memory, are neither used nor changed.
func TestP3_8NotModified(t *testing.T) {
	beyond := func() []api.SpSpan { return list(sp(4, 4), sp(16, 20), sp(50, 3), sp(60, 4), sp(70, 5)) }
	a, b := beyond(), beyond()
	for name, f := range makers() {
		f(a[:2], b[1:3])
		f(a[:2], a[1:3])
		f(a[:0], b[1:3])
		if !slices.Equal(a, beyond()) || !slices.Equal(b, beyond()) {
			t.Fatalf("%s changed its arguments to %v and %v", name, a, b)
		}
	}
	for _, n := range numbers() {
		calls(a[:2], sp(n, 3), n, 4)
		calls(a[:2], sp(3, n), 4, n)
		for range spans.Pieces(a[:2], n) {
		}
	}
	for range spans.Pages(a[:2]) {
	}
	if spans.Check(a[:2]) != api.OK || !slices.Equal(a, beyond()) {
		t.Errorf("an argument was changed to %v", a)
	}
	unsorted := list(sp(9, 1), sp(3, 2), sp(4, 2))
	if spans.Of(unsorted); !slices.Equal(unsorted, list(sp(9, 1), sp(3, 2), sp(4, 2))) {
		t.Errorf("Of changed its argument to %v", unsorted)
	}
}

// A set can be joined with itself.
func TestP3_8SameArguments(t *testing.T) {
	s := example()
	for name, want := range map[string][]api.SpSpan{"Union": example(), "Meet": example(), "Minus": nil} {
		if got, e := joins()[name](s, s); e != api.OK || !slices.Equal(got, want) || !slices.Equal(s, example()) {
			t.Errorf("%s of S and S: %v, %d, and S is %v", name, got, e, s)
		}
	}
}

// Any arguments return: lists of any spans, and numbers at the ends of their type.
func TestP3_8AnyArguments(t *testing.T) {
	r := source()
	number := func() int {
		if r.IntN(2) == 0 {
			return r.IntN(all)
		}
		return numbers()[r.IntN(len(numbers()))]
	}
	for range 30000 {
		s := make([]api.SpSpan, r.IntN(4))
		for i := range s {
			s[i] = sp(number(), number())
		}
		x, size := sp(number(), number()), number()
		valid := spans.Check(s)
		for name, got := range calls(s, x, number(), size) {
			if valid != api.OK && got != (found{0, valid}) {
				t.Fatalf("%s of %v: %v, want the error of Check, %d", name, s, got, valid)
			}
		}
		if l, e := spans.Of(s); (e != api.OK) != (valid == api.ErrRange) || spans.Check(l) != api.OK {
			t.Fatalf("Of(%v): %v, %d", s, l, e)
		}
		n := 0
		for p := range spans.Pages(s) {
			if p < 0 || p >= all {
				t.Fatalf("Pages(%v) has the page %d", s, p)
			}
			n++
		}
		for y := range spans.Pieces(s, size) {
			n -= y.Pages
		}
		if n != 0 && size >= 1 && size <= all {
			t.Fatalf("Pieces(%v, %d) has %d pages less than Pages", s, size, n)
		}
	}
}
