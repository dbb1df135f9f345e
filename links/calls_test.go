package links_test

import (
	"errors"
	"slices"
	"strconv"
	"testing"

	"polder/api"
	"polder/links"
)

// everyCall does every call of some methods in every state of small pools, and compares results and states.
func everyCall(t *testing.T, names ...string) {
	t.Helper()
	for m := range small() {
		for c := range m.calls(names...) {
			p, q := load(t, m), m.clone()
			got, want := do(p, c), q.do(c)
			if got != want || !same(p.Save(), q.state()) {
				t.Fatalf("%v of %v: %v, %v, want %v, %v", c, m.state(), got, p.Save(), want, q.state())
			}
			if want.e != api.OK && !same(p.Save(), m.state()) {
				t.Fatalf("%v of %v: an error, and %v", c, m.state(), p.Save())
			}
		}
	}
}

// manyCalls does random calls, about half of them of these methods, of pools that begin with all slots free.
func manyCalls(t *testing.T, names ...string) {
	t.Helper()
	r := source()
	for _, n := range [][2]int{{1, 1}, {5, 1}, {6, 3}, {40, 64}, {200, 4}, {2000, 2}} {
		p, e := links.New[string](n[0], n[1])
		if e != api.OK {
			t.Fatalf("New: %d", e)
		}
		m := none(n[0], n[1])
		for i := range 800 {
			c := m.random(r)
			if r.IntN(2) == 0 {
				c.name = names[r.IntN(len(names))]
			}
			if got, want := do(p, c), m.do(c); got != want {
				t.Fatalf("%d slots: %v: %v, want %v", n[0], c, got, want)
			}
			if i%100 == 99 && !same(p.Save(), m.state()) {
				t.Fatalf("%d slots: the state is %v, want %v", n[0], p.Save(), m.state())
			}
		}
	}
}

// P4.2

func TestP4_2PushAfter(t *testing.T) {
	everyCall(t, "Push", "After")
	manyCalls(t, "Push", "After")
}

// As many values are taken as there are slots, the lists being full at each end of what is allowed.
func TestP4_2Full(t *testing.T) {
	for _, n := range [][2]int{{1, 1}, {1, 64}, {2000, 1}, {2000, 64}} {
		p, _ := links.New[int](n[0], n[1])
		for i := range n[0] {
			if slot, e := p.Push(i%n[1], i, i%3 == 0); slot != i || e != api.OK {
				t.Fatalf("Push: %d, %d, want %d", slot, e, i)
			}
		}
		for list := range n[1] {
			if slot, e := p.Push(list, 0, true); slot != 0 || e != api.ErrFull {
				t.Errorf("Push: %d, %d, want ErrFull", slot, e)
			}
		}
		for _, slot := range []int{0, n[0] - 1} {
			if slot, e := p.After(slot, 0); slot != 0 || e != api.ErrFull {
				t.Errorf("After: %d, %d, want ErrFull", slot, e)
			}
		}
		// What is wrong with the list or the slot is said first.
		if slot, e := p.Push(n[1], 0, false); slot != 0 || e != api.ErrRange {
			t.Errorf("Push: %d, %d, want ErrRange", slot, e)
		}
		if slot, e := p.After(n[0], 0); slot != 0 || e != api.ErrNone {
			t.Errorf("After: %d, %d, want ErrNone", slot, e)
		}
		for _, slot := range []int{n[0] - 1, n[0] / 2} {
			if v, e := p.Take(slot); v != slot || e != api.OK {
				t.Fatalf("Take(%d): %d, %d", slot, v, e)
			}
			if got, e := p.Push(0, slot, false); got != slot || e != api.OK {
				t.Errorf("Push: %d, %d, want %d", got, e, slot)
			}
		}
	}
}

// P4.3

func TestP4_3TakeMove(t *testing.T) {
	everyCall(t, "Take", "Move")
	manyCalls(t, "Take", "Move")
}

// Of a slot that is in no list and a list that there is not, the slot is said first.
func TestP4_3Errors(t *testing.T) {
	p := load(t, &plain{values: []string{"a", ""}, lists: [][]int{{0}, nil}})
	for _, c := range []struct {
		slot, list int
		e          api.Errno
	}{{1, 2, api.ErrNone}, {2, 2, api.ErrNone}, {-1, -1, api.ErrNone}, {1, 0, api.ErrNone}, {0, 2, api.ErrRange}, {0, -1, api.ErrRange}, {0, 1, api.OK}} {
		if e := p.Move(c.slot, c.list, true); e != c.e {
			t.Errorf("Move(%d, %d): %d, want %d", c.slot, c.list, e, c.e)
		}
	}
	if v, e := p.Take(1); v != "" || e != api.ErrNone {
		t.Errorf("Take: %q, %d", v, e)
	}
}

// The value of a slot that was taken is not in the state any more.
func TestP4_3TakeValue(t *testing.T) {
	for m := range small() {
		for slot := range m.values {
			p := load(t, m)
			if _, e := p.Take(slot); e == api.OK && p.Save().Values[slot] != "" {
				t.Fatalf("Take leaves %q", p.Save().Values[slot])
			}
		}
	}
}

// P4.4

func TestP4_4Reads(t *testing.T) {
	everyCall(t, "Get", "Put", "Where", "End", "Step", "Len")
	manyCalls(t, "Get", "Put", "Where", "End", "Step", "Len")
	for _, m := range large() {
		p := load(t, m)
		for list := range m.lists {
			if n, e := p.Len(list); n != len(m.lists[list]) || e != api.OK {
				t.Errorf("Len(%d): %d, %d, want %d", list, n, e, len(m.lists[list]))
			}
		}
	}
}

// P4.8

func TestP4_8TakeOfPush(t *testing.T) {
	for _, l := range [][]*plain{slices.Collect(small()), large()} {
		for _, m := range l {
			p := load(t, m)
			for c := range none(4, 3).calls("Push", "After") {
				d := do(p, c)
				if d.e != api.OK {
					continue
				}
				if v, e := p.Take(d.n); v != c.v || e != api.OK || !same(p.Save(), m.state()) {
					t.Fatalf("Take of what %v returned: %q, %d, or the state is not as it was", c, v, e)
				}
			}
		}
	}
}

// P4.9

// type9 does the same calls of a pool of values of a type, and returns what they return but values, and the links after each.
func type9[T any](made func(string) T) (l []done, states []api.LkState[struct{}]) {
	r := source()
	p, _ := links.New[T](7, 3)
	m := none(7, 3)
	for range 600 {
		d := doAny(p, m.random(r), made, func(T) string { return "" })
		s := p.Save()
		l = append(l, d)
		states = append(states, api.LkState[struct{}]{Values: make([]struct{}, len(s.Values)), List: s.List, Next: s.Next, Prev: s.Prev, First: s.First, Last: s.Last})
	}
	return l, states
}

func TestP4_9Types(t *testing.T) {
	l, states := type9(func(s string) string { return s })
	check := func(name string, l1 []done, states1 []api.LkState[struct{}]) {
		t.Helper()
		if !slices.Equal(l, l1) || !slices.EqualFunc(states, states1, sameLinks) {
			t.Errorf("pools of %s have other slots, errors or links than those of texts", name)
		}
	}
	number := func(s string) int { n, _ := strconv.Atoi(s); return n }
	l1, s1 := type9(number)
	check("numbers", l1, s1)
	l1, s1 = type9(func(s string) bool { return number(s)%2 == 0 })
	check("bools", l1, s1)
	l1, s1 = type9(func(string) struct{} { return struct{}{} })
	check("nothing", l1, s1)
	l1, s1 = type9(func(s string) *string { return &s })
	check("pointers", l1, s1)
	l1, s1 = type9(func(s string) []string { return []string{s} })
	check("slices", l1, s1)
	l1, s1 = type9(func(s string) func() string { return func() string { return s } })
	check("functions", l1, s1)
	l1, s1 = type9(func(s string) any { return map[string]int{s: 1} })
	check("maps in interfaces", l1, s1)
	l1, s1 = type9(func(s string) error { return errors.New(s) })
	check("errors", l1, s1)
	l1, s1 = type9(func(s string) [3]float64 { return [3]float64{float64(number(s))} })
	check("arrays", l1, s1)
	l1, s1 = type9(func(string) string { return "" })
	check("equal texts", l1, s1)
}

// What is wrong in a state does not depend on the type of its values, nor on them.
func TestP4_9Check(t *testing.T) {
	for s := range numbered(2, 1, -1, [2]int{1, 1}) {
		a, e1 := links.Check(s)
		b, e2 := links.Check(api.LkState[struct{}]{Values: make([]struct{}, 2), List: s.List, Next: s.Next, Prev: s.Prev, First: s.First, Last: s.Last})
		c, e3 := links.Check(api.LkState[any]{Values: []any{[]int{1}, 2.5}, List: s.List, Next: s.Next, Prev: s.Prev, First: s.First, Last: s.Last})
		if a != b || e1 != e2 || a != c || e1 != e3 {
			t.Fatalf("Check(%v): %v, %v, %v, %d, %d, %d", s, a, b, c, e1, e2, e3)
		}
	}
}
