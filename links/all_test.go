package links_test

import (
	"slices"
	"testing"

	"polder/api"
)

// steps returns the slots of a list with their values.
func (m *plain) steps(list int, back bool) []step {
	if !m.hasList(list) {
		return nil
	}
	var l []step
	for _, slot := range m.lists[list] {
		l = append(l, step{slot, m.values[slot]})
	}
	if back {
		slices.Reverse(l)
	}
	return l
}

// P4.5

func TestP4_5All(t *testing.T) {
	for _, l := range [][]*plain{slices.Collect(small()), large()} {
		for _, m := range l {
			p := load(t, m)
			for _, list := range append(odd(), 0, 1, 2, 3, 63, 64) {
				for _, back := range []bool{false, true} {
					want := m.steps(list, back)
					if got := walk(t, p, list, back); !slices.Equal(got, want) {
						t.Fatalf("All(%d, %v) of %v: %v, want %v", list, back, m.state(), got, want)
					}
					if got := walk(t, p, list, back); !slices.Equal(got, want) {
						t.Fatalf("All(%d, %v) of %v again: %v, want %v", list, back, m.state(), got, want)
					}
				}
			}
			if !same(p.Save(), m.state()) {
				t.Fatalf("All changes the state")
			}
		}
	}
}

// A loop may be left at each slot, and the sequence may be gone through again from its beginning.
func TestP4_5Left(t *testing.T) {
	for m := range pools(4, 2) {
		p := load(t, m)
		for _, back := range []bool{false, true} {
			want := m.steps(1, back)
			seq := p.All(1, back)
			for n := range want {
				var got []step
				for slot, v := range seq {
					got = append(got, step{slot, v})
					if len(got) == n+1 {
						break
					}
				}
				if !slices.Equal(got, want[:n+1]) {
					t.Fatalf("All(1, %v) of %v, left after %d: %v", back, m.state(), n+1, got)
				}
			}
		}
	}
}

// At one of the slots that are yielded, the caller does something with it, or puts another one into the pool.
func TestP4_5Changes(t *testing.T) {
	for m := range pools(4, 2) {
		for _, back := range []bool{false, true} {
			for at, x := range m.steps(0, back) {
				for _, c := range []call{
					{"Take", x.slot, 0, false, ""}, {"Put", x.slot, 0, false, "new"}, {"After", x.slot, 0, false, "new"},
					{"Push", 0, 0, false, "new"}, {"Push", 0, 0, true, "new"}, {"Push", 0, 1, true, "new"},
					{"Move", x.slot, 0, false, ""}, {"Move", x.slot, 0, true, ""}, {"Move", x.slot, 1, false, ""}, {"Move", x.slot, 1, true, ""},
				} {
					changed(t, m, back, at, c)
				}
			}
		}
	}
}

// changed goes through the list 0 and does a call at the place at, in the pool and in m, where the slot that comes next is found before.
func changed(t *testing.T, m *plain, back bool, at int, c call) {
	t.Helper()
	places := map[bool]int{false: 1, true: -1}[back]
	p, q := load(t, m), m.clone()
	var want []step
	for slot := q.steps(0, back)[0].slot; slot >= 0; {
		want = append(want, step{slot, q.values[slot]})
		next := q.near(slot, places)
		if len(want) == at+1 {
			q.do(c)
		}
		slot = next
	}
	var got []step
	for slot, v := range p.All(0, back) {
		got = append(got, step{slot, v})
		if len(got) == at+1 {
			do(p, c)
		}
		if len(got) > 20 {
			t.Fatalf("All does not end")
		}
	}
	if !slices.Equal(got, want) || !same(p.Save(), q.state()) {
		t.Fatalf("All(0, %v) of %v, with %v at %d: %v, want %v", back, m.state(), c, at, got, want)
	}
}

// Every slot that is yielded is taken out, moved to the other list, to the end that was passed, or given another value.
func TestP4_5ChangesOfAll(t *testing.T) {
	for m := range pools(4, 2) {
		for _, back := range []bool{false, true} {
			for _, f := range []func(slot int) call{
				func(slot int) call { return call{"Take", slot, 0, false, ""} },
				func(slot int) call { return call{"Put", slot, 0, false, "new"} },
				func(slot int) call { return call{"Move", slot, 0, !back, ""} },
				func(slot int) call { return call{"Move", slot, 1, false, ""} },
				func(slot int) call { return call{"Move", slot, 1, true, ""} },
			} {
				p, q := load(t, m), m.clone()
				want := m.steps(0, back)
				var got []step
				for slot, v := range p.All(0, back) {
					got = append(got, step{slot, v})
					do(p, f(slot))
				}
				for _, x := range want {
					q.do(f(x.slot))
				}
				if !slices.Equal(got, want) || !same(p.Save(), q.state()) {
					t.Fatalf("All(0, %v) of %v, with %v and so on: %v, want %v", back, m.state(), f(0), got, want)
				}
			}
		}
	}
}

// The value of a slot is the one that it has when it is yielded.
func TestP4_5ValueOfNext(t *testing.T) {
	p := load(t, &plain{values: []string{"a", "b", "c"}, lists: [][]int{{2, 0, 1}}})
	var got []step
	for slot, v := range p.All(0, false) {
		got = append(got, step{slot, v})
		if next, e := p.Step(slot, false); e == api.OK {
			p.Put(next, v+"x")
		}
	}
	if want := []step{{2, "c"}, {0, "cx"}, {1, "cxx"}}; !slices.Equal(got, want) {
		t.Errorf("All: %v, want %v", got, want)
	}
}

// Whatever the caller takes out or moves besides, All yields no slot that is not in the list, and ends.
func TestP4_5Others(t *testing.T) {
	for m := range pools(4, 2) {
		for _, back := range []bool{false, true} {
			for c := range m.calls("Take", "Move") {
				p := load(t, m)
				n := 0
				for slot := range p.All(0, back) {
					if list, e := p.Where(slot); list != 0 || e != api.OK {
						t.Fatalf("All(0, %v) of %v, with %v: yields %d, which is in %d, %d", back, m.state(), c, slot, list, e)
					}
					if n == 0 {
						do(p, c)
					}
					if n++; n > 20 {
						t.Fatalf("All(0, %v) of %v, with %v: does not end", back, m.state(), c)
					}
				}
			}
		}
	}
}

// P4.8

func TestP4_8Lists(t *testing.T) {
	r := source()
	for _, m := range append(large(), none(9, 4)) {
		p := load(t, m)
		for range 60 {
			do(p, m.random(r))
			parted(t, p.Save().List, func(list int, back bool) []step { return walk(t, p, list, back) }, len(m.lists))
		}
	}
}

// parted checks that each slot is free, or is yielded by All of its list alone, once, and that All backwards is reversed.
func parted(t *testing.T, where []int, all func(list int, back bool) []step, lists int) {
	t.Helper()
	times := make([]int, len(where))
	for list := range lists {
		l := all(list, false)
		for _, x := range l {
			times[x.slot]++
			if where[x.slot] != list {
				t.Fatalf("All(%d) yields %d, which is in %d", list, x.slot, where[x.slot])
			}
		}
		slices.Reverse(l)
		if !slices.Equal(all(list, true), l) {
			t.Fatalf("All(%d) backwards is not All reversed", list)
		}
	}
	for slot, list := range where {
		if want := map[bool]int{false: 1, true: 0}[list < 0]; times[slot] != want {
			t.Fatalf("%d, in %d, is yielded %d times", slot, list, times[slot])
		}
	}
}
