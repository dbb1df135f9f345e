package buddy_test

import (
	"math/rand/v2"
	"slices"
	"testing"

	"polder/api"
	"polder/buddy"
)

// verdict returns what Load is to return, clause by clause.
func verdict(s api.BuState) api.Errno {
	if s.Order < 0 || s.Order > most {
		return api.ErrRange
	}
	p := &plain{order: s.Order}
	last := -1
	for _, x := range s.Given {
		if !p.is(x) || !p.empty(x) || x.Page <= last {
			return api.ErrForm
		}
		p.give(x)
		last = x.Page
	}
	return api.OK
}

// check checks Load of a state, that it does not change it, and that what is loaded has it.
func check(t *testing.T, s api.BuState) api.Errno {
	t.Helper()
	before := api.BuState{Order: s.Order, Given: slices.Clone(s.Given)}
	want := verdict(s)
	b, e := buddy.Load(s)
	if e != want || (b == nil) != (e != api.OK) {
		t.Fatalf("Load(%v): %v, %d, not %d", s, b != nil, e, want)
	}
	if !same(s, before) {
		t.Fatalf("a state was changed from %v to %v", before, s)
	}
	if e == api.OK {
		is(t, b, of(s))
	}
	return e
}

// P8.1

func TestP8_1Valid(t *testing.T) {
	for _, s := range small() {
		want(t, check(t, s), api.OK, "a state of a small range")
	}
	for _, p := range mixed() {
		want(t, check(t, p.state()), api.OK, "a state")
	}
	want(t, check(t, api.BuState{}), api.OK, "the zero state")
	want(t, check(t, api.BuState{Order: 10, Given: []api.BuBlock{}}), api.OK, "a list that is empty")
}

func TestP8_1Order(t *testing.T) {
	for order := -3; order <= 14; order++ {
		for _, given := range [][]api.BuBlock{nil, {}, {{}}, {{Page: 1}}, {{Order: 1}}, {{Order: 10}}, {{Order: 11}}, {{Order: -1}}, {{Page: 4}, {}}} {
			check(t, api.BuState{Order: order, Given: given})
		}
	}
	for _, order := range odd() {
		want(t, check(t, api.BuState{Order: order}), api.ErrRange, "Order")
		want(t, check(t, api.BuState{Order: order, Given: []api.BuBlock{{Page: -1}, {Page: -1}}}), api.ErrRange, "Order, and the form")
	}
}

// All lists of at most three blocks, of which some are none, of a range with four pages.
func TestP8_1Form(t *testing.T) {
	l := []api.BuBlock{{Page: -1}, {Order: -1}, {Order: 3}, {Page: 4}, {Page: 4, Order: 2}, {Page: 1, Order: 1}, {Page: 2, Order: 2}, {Page: -4, Order: 2}}
	p := &plain{order: 2}
	for order := range 3 {
		l = append(l, p.all(order)...)
	}
	seen := map[api.Errno]int{}
	for _, a := range l {
		seen[check(t, api.BuState{Order: 2, Given: []api.BuBlock{a}})]++
		for _, b := range l {
			seen[check(t, api.BuState{Order: 2, Given: []api.BuBlock{a, b}})]++
			for _, c := range l {
				seen[check(t, api.BuState{Order: 2, Given: []api.BuBlock{a, b, c}})]++
			}
		}
	}
	if seen[api.OK] != 24 { // of the 26 states, all but the one with no block and the one with four
		t.Errorf("the errors are %v", seen)
	}
}

// Numbers of any size are neither pages nor orders.
func TestP8_1FormNumbers(t *testing.T) {
	for order := range most + 1 {
		for _, n := range odd() {
			for _, x := range []api.BuBlock{{Page: n}, {Order: n}, {Page: n, Order: n}, {Page: n, Order: order}} {
				want(t, check(t, api.BuState{Order: order, Given: []api.BuBlock{x}}), api.ErrForm, "a number")
				want(t, check(t, api.BuState{Order: order, Given: []api.BuBlock{{}, x}}), api.ErrForm, "a number")
			}
		}
	}
}

// spoil changes something of a state.
func spoil(s *api.BuState, r *rand.Rand) {
	n := len(s.Given)
	if n == 0 {
		s.Given = []api.BuBlock{{Page: r.IntN(power(s.Order) + 1), Order: r.IntN(3) - 1}}
		return
	}
	i, j := r.IntN(n), r.IntN(n)
	switch r.IntN(5) {
	case 0:
		s.Given[i].Order += r.IntN(3) - 1
	case 1:
		s.Given[i].Page += r.IntN(5) - 2
	case 2:
		s.Given[i], s.Given[j] = s.Given[j], s.Given[i]
	case 3:
		s.Given = slices.Insert(s.Given, i, s.Given[j])
	case 4:
		s.Order += r.IntN(3) - 1
	}
}

func TestP8_1Spoilt(t *testing.T) {
	r := source()
	seen := map[api.Errno]int{}
	for _, p := range mixed() {
		for range 60 {
			s := p.state()
			for range 1 + r.IntN(2) {
				spoil(&s, r)
			}
			seen[check(t, s)]++
		}
	}
	if seen[api.OK] == 0 || seen[api.ErrForm] == 0 || seen[api.ErrRange] == 0 {
		t.Errorf("the errors are %v", seen)
	}
}

// An allocator that is saved and loaded goes on as before, also one that came to its state by another way.
func TestP8_1SaveLoad(t *testing.T) {
	r := source()
	for _, p := range mixed() {
		b := load(t, p.state())
		for range 60 {
			c := random(r, p)
			o := load(t, b.Save())
			p.do(c)
			n, e := do(b, c)
			if m, f := do(o, c); n != m || e != f || !same(b.Save(), o.Save()) || !slices.Equal(blocks(t, b), blocks(t, o)) {
				t.Fatalf("%v: %d, %d, and %d, %d after saving and loading: %v, %v", c, n, e, m, f, b.Save(), o.Save())
			}
		}
	}
}

// A state is neither kept nor given away.
func TestP8_1NewMemory(t *testing.T) {
	for _, p := range mixed() {
		s := p.state()
		b := load(t, s)
		for i := range s.Given {
			s.Given[i] = api.BuBlock{Page: -5, Order: 99}
		}
		is(t, b, p)
		x, y := b.Save(), b.Save()
		for i := range x.Given {
			x.Given[i] = api.BuBlock{Page: -5, Order: 99}
		}
		if !same(y, p.state()) {
			t.Fatalf("two results of Save share memory: %v", y)
		}
		is(t, b, p)
		for _, g := range p.given() {
			want(t, b.Free(g.Page, g.Order), api.OK, "Free")
		}
		if !same(y, p.state()) {
			t.Fatalf("Free changes what Save returned: %v", y)
		}
	}
}

// Two allocators are independent.
func TestP8_1Independent(t *testing.T) {
	for _, p := range mixed() {
		a, b := load(t, p.state()), load(t, p.state())
		a.Alloc(0)
		for _, x := range p.given() {
			a.Free(x.Page, x.Order)
		}
		is(t, b, p)
	}
}
