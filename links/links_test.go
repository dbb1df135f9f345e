package links_test

import (
	"math"
	"slices"
	"testing"

	"polder/api"
	"polder/links"
)

func TestExamples(t *testing.T) {
	p, e := links.New[int](3, 2)
	if p == nil || e != api.OK {
		t.Fatalf("New: %d", e)
	}
	for i, c := range []struct {
		f    func() (int, api.Errno)
		n    int
		want api.Errno
	}{
		{func() (int, api.Errno) { return p.Push(0, 7, false) }, 0, api.OK},
		{func() (int, api.Errno) { return p.Push(0, 8, false) }, 1, api.OK},
		{func() (int, api.Errno) { return p.After(0, 9) }, 2, api.OK},
		{func() (int, api.Errno) { return p.Push(1, 5, false) }, 0, api.ErrFull},
	} {
		if n, e := c.f(); n != c.n || e != c.want {
			t.Errorf("%d: %d, %d, want %d, %d", i, n, e, c.n, c.want)
		}
	}
	var l []int
	for slot, v := range p.All(0, false) {
		l = append(l, slot, v)
	}
	if !slices.Equal(l, []int{0, 7, 2, 9, 1, 8}) {
		t.Errorf("All: %v", l)
	}
	if v, e := p.Take(0); v != 7 || e != api.OK {
		t.Errorf("Take: %d, %d", v, e)
	}
	if slot, e := p.Push(1, 4, true); slot != 0 || e != api.OK {
		t.Errorf("Push: %d, %d", slot, e)
	}
	want := api.LkState[int]{Values: []int{4, 8, 9}, List: []int{1, 0, 0}, Next: []int{-1, -1, 1}, Prev: []int{-1, 2, -1}, First: []int{2, 0}, Last: []int{1, 0}}
	if s := p.Save(); !sameLinks(s, want) || !slices.Equal(s.Values, want.Values) {
		t.Errorf("Save: %v, want %v", s, want)
	}
	if n, e := p.Step(2, true); n != 0 || e != api.ErrDown {
		t.Errorf("Step: %d, %d", n, e)
	}
	if n, e := p.Where(0); n != 1 || e != api.OK {
		t.Errorf("Where: %d, %d", n, e)
	}
	if n, e := p.Len(2); n != 0 || e != api.ErrRange {
		t.Errorf("Len: %d, %d", n, e)
	}
}

// P4.1

func TestP4_1New(t *testing.T) {
	check := func(slots, lists int) {
		p, e := links.New[string](slots, lists)
		if slots < 1 || slots > 2000 || lists < 1 || lists > 64 {
			if p != nil || e != api.ErrRange {
				t.Errorf("New(%d, %d): %v, %d, want ErrRange", slots, lists, p, e)
			}
			return
		}
		if p == nil || e != api.OK || !same(p.Save(), none(slots, lists).state()) {
			t.Errorf("New(%d, %d): %d, or not all is free", slots, lists, e)
		}
	}
	ends := []int{math.MinInt, math.MinInt + 1, -2001, -2000, -64, -1, 0, 1, 2, 63, 64, 65, 1999, 2000, 2001, 4096, math.MaxInt - 1, math.MaxInt}
	for _, a := range ends {
		for _, b := range ends {
			check(a, b)
		}
	}
	for n := -3; n < 70; n++ {
		for k := -3; k < 70; k++ {
			check(n, k)
		}
	}
}

func TestP4_1Load(t *testing.T) {
	for _, l := range [][]*plain{slices.Collect(small()), large()} {
		for _, m := range l {
			if p := load(t, m); !same(p.Save(), m.state()) {
				t.Fatalf("Load(%v): %v", m.state(), p.Save())
			}
		}
	}
}

// Values of free slots are of no consequence for Check, and those of Load are zero.
func TestP4_1LoadFree(t *testing.T) {
	for m := range small() {
		s := m.state()
		for slot, list := range s.List {
			if list < 0 {
				s.Values[slot] = "free"
			}
		}
		if w, e := links.Check(s); w != (api.LkWrong{}) || e != api.OK {
			t.Fatalf("Check(%v): %v, %d", s, w, e)
		}
		p, e := links.Load(s)
		if e != api.OK || !same(p.Save(), m.state()) {
			t.Fatalf("Load(%v): %d", s, e)
		}
		for c := range m.calls("Push", "After") {
			p, q := load(t, m), load(t, m)
			if a, b := do(p, c), do(q, c); a != b || !same(p.Save(), q.Save()) {
				t.Fatalf("%v: %v, %v", c, a, b)
			}
		}
	}
}

// P4.6

func TestP4_6Save(t *testing.T) {
	r := source()
	for _, m := range append(large(), none(6, 2)) {
		p := load(t, m)
		for range 400 {
			c := m.random(r)
			if got, want := do(p, c), m.do(c); got != want {
				t.Fatalf("%v: %v, want %v", c, got, want)
			}
			if got, want := p.Save(), m.state(); !same(got, want) {
				t.Fatalf("Save after %v: %v, want %v", c, got, want)
			}
		}
	}
}

// P4.7

func TestP4_7LoadOfSave(t *testing.T) {
	r := source()
	for _, l := range [][]*plain{slices.Collect(pools(3, 2)), large()} {
		for _, m := range l {
			p := load(t, m)
			for range 30 {
				c := m.random(r)
				q, e := links.Load(p.Save())
				if e != api.OK || !same(q.Save(), p.Save()) {
					t.Fatalf("Load(%v): %d", p.Save(), e)
				}
				if a, b := do(p, c), do(q, c); a != b || !same(p.Save(), q.Save()) {
					t.Fatalf("%v: %v, and %v of what was loaded", c, a, b)
				}
				m.do(c)
			}
		}
	}
}

// P4.10, R3

func TestP4_10NewMemory(t *testing.T) {
	for _, l := range [][]*plain{slices.Collect(pools(3, 2)), large()} {
		for _, m := range l {
			s := m.state()
			p, e := links.Load(s)
			if e != api.OK || !same(s, m.state()) {
				t.Fatalf("Load changed its argument, %d", e)
			}
			spoil(s)
			if !same(p.Save(), m.state()) {
				t.Fatal("a pool has memory of the state that was loaded")
			}
			a, b := p.Save(), p.Save()
			spoil(a)
			if !same(b, m.state()) || !same(p.Save(), m.state()) {
				t.Fatal("what Save returns has memory of the pool, or of another result")
			}
			q := load(t, m)
			before := q.Save()
			for c := range none(2, 2).calls("Push", "Take", "Move", "Put") {
				do(q, c)
			}
			if !same(before, m.state()) {
				t.Fatal("calls change what Save returned")
			}
		}
	}
}

// spoil changes every number and text of a state, each slice in its own way.
func spoil(s api.LkState[string]) {
	for i := range s.Values {
		s.Values[i] = "spoilt"
	}
	for k, l := range [][]int{s.List, s.Next, s.Prev, s.First, s.Last} {
		for i := range l {
			l[i] = 9000 + k
		}
	}
}

// The slices of a result must not be parts of one another, as those of a new pool have equal numbers.
func TestP4_10Parts(t *testing.T) {
	for _, m := range []*plain{none(3, 3), none(1, 1), none(64, 64)} {
		p, e := links.New[string](len(m.values), len(m.lists))
		if e != api.OK {
			t.Fatalf("New: %d", e)
		}
		s := p.Save()
		for k, l := range [][]int{s.List, s.Next, s.Prev, s.First, s.Last} {
			l[0] = k
			_ = append(l, 77)
		}
		if s.List[0] != 0 || s.Next[0] != 1 || s.Prev[0] != 2 || s.First[0] != 3 || s.Last[0] != 4 {
			t.Errorf("slices of Save have memory in common: %v", s)
		}
		p.Push(0, "a", true)
		m.do(call{name: "Push", v: "a"})
		if !same(p.Save(), m.state()) {
			t.Errorf("slices of a pool have memory in common: %v", p.Save())
		}
	}
}

func TestP4_10Check(t *testing.T) {
	for m := range small() {
		s := m.state()
		s.First[0] = -5
		was := api.LkState[string]{Values: slices.Clone(s.Values), List: slices.Clone(s.List), Next: slices.Clone(s.Next), Prev: slices.Clone(s.Prev), First: slices.Clone(s.First), Last: slices.Clone(s.Last)}
		links.Check(s)
		links.Load(s)
		if !same(s, was) {
			t.Fatalf("Check or Load changed its argument")
		}
	}
}

// R5

func TestR5NoPool(t *testing.T) {
	noPool(t, "nil", (*links.Pool[string])(nil))
	noPool(t, "a zero value", &links.Pool[string]{})
	noPool(t, "a zero value", new(links.Pool[string]))
	for m := range pools(2, 2) {
		p := load(t, m)
		c := *p
		noPool(t, "a copy", &c)
		if !same(p.Save(), m.state()) {
			t.Fatalf("calls of a copy change the pool")
		}
	}
}

func noPool(t *testing.T, name string, p *links.Pool[string]) {
	t.Helper()
	for c := range none(2, 2).calls(names()...) {
		if d := do(p, c); d != (done{e: api.ErrNil}) {
			t.Errorf("%v of %s: %v, want ErrNil", c, name, d)
		}
	}
	for _, list := range []int{-1, 0, 1, 2} {
		for _, back := range []bool{false, true} {
			for slot := range p.All(list, back) {
				t.Errorf("All of %s yields %d", name, slot)
			}
		}
	}
	if s := p.Save(); !isZero(s) {
		t.Errorf("Save of %s: %v", name, s)
	}
}
