package links_test

import (
	"iter"
	"math"
	"math/rand/v2"
	"slices"
	"strconv"
	"testing"

	"polder/api"
	"polder/links"
)

// plain is a pool of texts whose lists are slices of slots.
type plain struct {
	values []string
	lists  [][]int
}

func none(slots, lists int) *plain {
	return &plain{values: make([]string, slots), lists: make([][]int, lists)}
}

func (m *plain) clone() *plain {
	c := &plain{values: slices.Clone(m.values)}
	for _, l := range m.lists {
		c.lists = append(c.lists, slices.Clone(l))
	}
	return c
}

// where returns the list in which a slot is, and its place there; -1 if it is in none.
func (m *plain) where(slot int) (list, at int) {
	for i, l := range m.lists {
		if j := slices.Index(l, slot); j >= 0 {
			return i, j
		}
	}
	return -1, -1
}

func (m *plain) hasList(list int) bool { return list >= 0 && list < len(m.lists) }

// near returns the slot that is so many places from a slot, in its list; -1 if there is none.
func (m *plain) near(slot, places int) int {
	list, at := m.where(slot)
	if list < 0 || at+places < 0 || at+places >= len(m.lists[list]) {
		return -1
	}
	return m.lists[list][at+places]
}

// state returns the state as the chapter defines it.
func (m *plain) state() api.LkState[string] {
	s := api.LkState[string]{Values: slices.Clone(m.values)}
	for slot := range m.values {
		list, _ := m.where(slot)
		s.List = append(s.List, list)
		s.Next = append(s.Next, m.near(slot, 1))
		s.Prev = append(s.Prev, m.near(slot, -1))
	}
	for _, l := range m.lists {
		first, last := -1, -1
		if len(l) > 0 {
			first, last = l[0], l[len(l)-1]
		}
		s.First = append(s.First, first)
		s.Last = append(s.Last, last)
	}
	return s
}

// put puts the least free slot into a list, at a place.
func (m *plain) put(list, at int, v string) done {
	for slot := range m.values {
		if l, _ := m.where(slot); l < 0 {
			m.values[slot] = v
			m.lists[list] = slices.Insert(m.lists[list], at, slot)
			return done{n: slot}
		}
	}
	return done{e: api.ErrFull}
}

func (m *plain) remove(list, at int) { m.lists[list] = slices.Delete(m.lists[list], at, at+1) }

// call is one of a method that returns an error number; flag is the argument front or back.
type call struct {
	name       string
	slot, list int
	flag       bool
	v          string
}

// done is what a call returns.
type done struct {
	n int
	v string
	e api.Errno
}

// do does a call.
func (m *plain) do(c call) done {
	switch c.name {
	case "Push", "End", "Len":
		return m.onList(c)
	}
	return m.onSlot(c)
}

func (m *plain) onList(c call) done {
	if !m.hasList(c.list) {
		return done{e: api.ErrRange}
	}
	l := m.lists[c.list]
	switch {
	case c.name == "Len":
		return done{n: len(l)}
	case c.name == "Push" && c.flag:
		return m.put(c.list, 0, c.v)
	case c.name == "Push":
		return m.put(c.list, len(l), c.v)
	case len(l) == 0:
		return done{e: api.ErrNone}
	case c.flag:
		return done{n: l[0]}
	}
	return done{n: l[len(l)-1]}
}

func (m *plain) onSlot(c call) done {
	list, at := m.where(c.slot)
	if list < 0 {
		return done{e: api.ErrNone}
	}
	switch c.name {
	case "After":
		return m.put(list, at+1, c.v)
	case "Take":
		v := m.values[c.slot]
		m.values[c.slot] = ""
		m.remove(list, at)
		return done{v: v}
	case "Move":
		if !m.hasList(c.list) {
			return done{e: api.ErrRange}
		}
		m.remove(list, at)
		if to := m.lists[c.list]; c.flag {
			m.lists[c.list] = slices.Insert(to, 0, c.slot)
		} else {
			m.lists[c.list] = append(to, c.slot)
		}
		return done{}
	case "Get":
		return done{v: m.values[c.slot]}
	case "Put":
		m.values[c.slot] = c.v
		return done{}
	case "Where":
		return done{n: list}
	}
	next := m.near(c.slot, map[bool]int{false: 1, true: -1}[c.flag]) // Step
	if next < 0 {
		return done{e: api.ErrDown}
	}
	return done{n: next}
}

// do does a call of a pool of texts.
func do(p *links.Pool[string], c call) done {
	return doAny(p, c, func(s string) string { return s }, func(v string) string { return v })
}

// doAny does a call of a pool of values that are made of texts, and told as texts.
func doAny[T any](p *links.Pool[T], c call, made func(string) T, told func(T) string) (d done) {
	var v T
	hasValue := false
	switch c.name {
	case "Push":
		d.n, d.e = p.Push(c.list, made(c.v), c.flag)
	case "After":
		d.n, d.e = p.After(c.slot, made(c.v))
	case "Take":
		v, d.e = p.Take(c.slot)
		hasValue = true
	case "Move":
		d.e = p.Move(c.slot, c.list, c.flag)
	case "Get":
		v, d.e = p.Get(c.slot)
		hasValue = true
	case "Put":
		d.e = p.Put(c.slot, made(c.v))
	case "Where":
		d.n, d.e = p.Where(c.slot)
	case "End":
		d.n, d.e = p.End(c.list, c.flag)
	case "Step":
		d.n, d.e = p.Step(c.slot, c.flag)
	case "Len":
		d.n, d.e = p.Len(c.list)
	}
	if hasValue {
		d.v = told(v)
	}
	return d
}

// names are those of all methods that return an error number.
func names() []string {
	return []string{"Push", "After", "Take", "Move", "Get", "Put", "Where", "End", "Step", "Len"}
}

// odd are numbers that are those of no slot and of no list.
func odd() []int { return []int{math.MinInt, -2001, -2, -1, 2000, math.MaxInt} }

// calls yields the calls of some methods, with all slots and lists that there are, and some that there are not.
func (m *plain) calls(names ...string) iter.Seq[call] {
	slots := append(odd(), len(m.values))
	for slot := range m.values {
		slots = append(slots, slot)
	}
	lists := append(odd(), len(m.lists))
	for list := range m.lists {
		lists = append(lists, list)
	}
	return func(yield func(call) bool) {
		for _, name := range names {
			for _, slot := range slots {
				for _, list := range lists {
					for _, flag := range []bool{false, true} {
						if !yield(call{name, slot, list, flag, "new"}) {
							return
						}
					}
				}
			}
		}
	}
}

// pools yields all that a pool can be.
func pools(slots, lists int) iter.Seq[*plain] {
	return func(yield func(*plain) bool) {
		var place func(m *plain, slot int) bool
		place = func(m *plain, slot int) bool {
			if slot == slots {
				return yield(m.clone())
			}
			if !place(m, slot+1) {
				return false
			}
			for list := range m.lists {
				for at := range len(m.lists[list]) + 1 {
					c := m.clone()
					c.lists[list] = slices.Insert(c.lists[list], at, slot)
					c.values[slot] = "v" + strconv.Itoa(slot)
					if !place(c, slot+1) {
						return false
					}
				}
			}
			return true
		}
		place(none(slots, lists), 0)
	}
}

// small yields all that small pools can be.
func small() iter.Seq[*plain] {
	return func(yield func(*plain) bool) {
		for _, n := range [][2]int{{1, 1}, {2, 1}, {4, 1}, {1, 3}, {3, 2}, {4, 2}, {3, 3}} {
			for m := range pools(n[0], n[1]) {
				if !yield(m) {
					return
				}
			}
		}
	}
}

func source() *rand.Rand { return rand.New(rand.NewPCG(4, 4)) }

// random returns a call with numbers that mostly are those of a slot and a list.
func (m *plain) random(r *rand.Rand) call {
	return call{names()[r.IntN(10)], r.IntN(len(m.values)+2) - 1, r.IntN(len(m.lists)+2) - 1, r.IntN(2) == 0, strconv.Itoa(r.IntN(1000))}
}

// mixed returns a pool of this size whose slots are in random places, some of them free.
func mixed(r *rand.Rand, slots, lists int) *plain {
	m := none(slots, lists)
	for _, slot := range r.Perm(slots)[:slots-slots/5] {
		list := r.IntN(lists)
		m.lists[list] = slices.Insert(m.lists[list], r.IntN(len(m.lists[list])+1), slot)
		m.values[slot] = strconv.Itoa(r.IntN(1000))
	}
	return m
}

// large returns pools with many slots or lists.
func large() []*plain {
	r := source()
	var l []*plain
	for _, n := range [][2]int{{7, 3}, {60, 64}, {300, 1}, {500, 9}, {2000, 64}} {
		l = append(l, mixed(r, n[0], n[1]))
	}
	return l
}

// load returns the pool with the state of m.
func load(t *testing.T, m *plain) *links.Pool[string] {
	t.Helper()
	p, e := links.Load(m.state())
	if p == nil || e != api.OK {
		t.Fatalf("Load(%v): %d", m.state(), e)
	}
	return p
}

// sameLinks reports whether two states differ in values at most.
func sameLinks[A, B any](a api.LkState[A], b api.LkState[B]) bool {
	return len(a.Values) == len(b.Values) && slices.Equal(a.List, b.List) && slices.Equal(a.Next, b.Next) && slices.Equal(a.Prev, b.Prev) && slices.Equal(a.First, b.First) && slices.Equal(a.Last, b.Last)
}

func same(a, b api.LkState[string]) bool { return sameLinks(a, b) && slices.Equal(a.Values, b.Values) }

func isZero[T any](s api.LkState[T]) bool {
	return len(s.Values)+len(s.List)+len(s.Next)+len(s.Prev)+len(s.First)+len(s.Last) == 0
}

// step is a slot with its value.
type step struct {
	slot int
	v    string
}

// walk returns what All yields, but no more than there can be.
func walk(t *testing.T, p *links.Pool[string], list int, back bool) []step {
	t.Helper()
	var l []step
	for slot, v := range p.All(list, back) {
		l = append(l, step{slot, v})
		if len(l) > api.MaxLkSlots {
			t.Fatalf("All(%d, %v) yields too many slots", list, back)
		}
	}
	return l
}
