package links_test

import (
	"iter"
	"math"
	"slices"
	"testing"

	"polder/api"
	"polder/links"
)

// wrong returns what is wrong in a state, as the chapter lists it.
func wrong(s api.LkState[string]) api.LkWrong {
	slots, lists := len(s.List), len(s.First)
	for _, n := range []int{len(s.Values), len(s.Next), len(s.Prev)} {
		if n != slots {
			return api.LkWrong{Where: api.LkSizes}
		}
	}
	if slots < 1 || slots > 2000 || lists != len(s.Last) || lists < 1 || lists > 64 {
		return api.LkWrong{Where: api.LkSizes}
	}
	for i := range slots {
		if s.List[i] < -1 || s.List[i] > lists-1 || s.Next[i] < -1 || s.Next[i] > slots-1 || s.Prev[i] < -1 || s.Prev[i] > slots-1 || s.List[i] == -1 && (s.Next[i] != -1 || s.Prev[i] != -1) {
			return api.LkWrong{Where: api.LkSlot, Index: i}
		}
	}
	met := map[int]bool{}
	for list := range lists {
		gone, ends := through(s, list)
		last := -1
		for _, slot := range gone {
			if slot < 0 || slot >= slots || s.List[slot] != list || s.Prev[slot] != last {
				return api.LkWrong{Where: api.LkList, Index: list}
			}
			last = slot
			met[slot] = true
		}
		if !ends || s.Last[list] != last {
			return api.LkWrong{Where: api.LkList, Index: list}
		}
	}
	for i := range slots {
		if s.List[i] != -1 && !met[i] {
			return api.LkWrong{Where: api.LkSlot, Index: i}
		}
	}
	return api.LkWrong{}
}

// through returns the slots of a list, as many as there are slots at most, and whether they come to an end.
func through(s api.LkState[string], list int) (gone []int, ends bool) {
	slot := s.First[list]
	for len(gone) < len(s.List) && slot != -1 {
		gone = append(gone, slot)
		if slot < 0 || slot >= len(s.List) {
			return gone, false
		}
		slot = s.Next[slot]
	}
	return gone, slot == -1
}

// checks reports whether Check and Load return what is wanted.
func checks(s api.LkState[string], want api.LkWrong) bool {
	e := api.ErrForm
	if want == (api.LkWrong{}) {
		e = api.OK
	}
	w, e1 := links.Check(s)
	p, e2 := links.Load(s)
	return w == want && e1 == e && e2 == e && (p != nil) == (e == api.OK)
}

// numbered yields all states of this size whose numbers are from least on, those of lists and of slots as far as most[0] and most[1] above the greatest ones.
func numbered(slots, lists, least int, most [2]int) iter.Seq[api.LkState[string]] {
	return func(yield func(api.LkState[string]) bool) {
		n := make([]int, 3*slots+2*lists)
		for i := range n {
			n[i] = least
		}
		greatest := func(i int) int {
			if i < slots {
				return lists - 1 + most[0]
			}
			return slots - 1 + most[1]
		}
		s := api.LkState[string]{Values: make([]string, slots), List: n[:slots], Next: n[slots : 2*slots], Prev: n[2*slots : 3*slots], First: n[3*slots : 3*slots+lists], Last: n[3*slots+lists:]}
		for yield(s) {
			i := 0
			for i < len(n) && n[i] == greatest(i) {
				n[i] = least
				i++
			}
			if i == len(n) {
				return
			}
			n[i]++
		}
	}
}

// P4.1

// Of all states with numbers in their ranges, or a little beyond, just those that a pool can have are right, and the others are wrong where the chapter says.
func TestP4_1CheckAll(t *testing.T) {
	for _, c := range []struct {
		slots, lists, least int
		most                [2]int
	}{{1, 1, -2, [2]int{1, 1}}, {1, 2, -1, [2]int{1, 1}}, {2, 1, -2, [2]int{0, 0}}, {2, 1, -1, [2]int{1, 1}}, {2, 2, -1, [2]int{}}, {3, 1, -1, [2]int{}}} {
		right := map[string]bool{}
		for m := range pools(c.slots, c.lists) {
			right[key(m.state())] = true
		}
		found := 0
		for s := range numbered(c.slots, c.lists, c.least, c.most) {
			want := wrong(s)
			if is := right[key(s)]; is != (want == api.LkWrong{}) {
				t.Fatalf("%v: a pool has this state: %v, but the definition of the test says %v", s, is, want)
			} else if is {
				found++
			}
			if !checks(s, want) {
				w, e := links.Check(s)
				t.Fatalf("Check(%v): %v, %d, want %v, or Load does not agree", s, w, e, want)
			}
		}
		if found != len(right) {
			t.Errorf("%d slots, %d lists: %d states of pools were tried, but there are %d", c.slots, c.lists, found, len(right))
		}
	}
}

// key returns the numbers of a state as a text.
func key(s api.LkState[string]) string {
	var b []byte
	for _, l := range [][]int{s.List, s.Next, s.Prev, s.First, s.Last} {
		for _, n := range l {
			b = append(b, byte(n))
		}
		b = append(b, 100)
	}
	return string(b)
}

func TestP4_1CheckSizes(t *testing.T) {
	lengths := []int{0, 1, 2, 3}
	for _, values := range lengths {
		for _, list := range lengths {
			for _, next := range lengths {
				for _, prev := range lengths {
					for _, first := range lengths {
						for _, last := range lengths {
							s := sized(values, list, next, prev, first, last)
							want := api.LkWrong{Where: api.LkSizes}
							if values > 0 && values == list && values == next && values == prev && first > 0 && first == last {
								want = api.LkWrong{}
							}
							if !checks(s, want) {
								w, e := links.Check(s)
								t.Fatalf("Check(%v): %v, %d, want %v", s, w, e, want)
							}
						}
					}
				}
			}
		}
	}
	for _, slots := range []int{0, 1, 64, 65, 1999, 2000, 2001, 4001} {
		for _, lists := range []int{0, 1, 63, 64, 65, 129, 2000} {
			want := api.LkWrong{Where: api.LkSizes}
			if slots >= 1 && slots <= 2000 && lists >= 1 && lists <= 64 {
				want = api.LkWrong{}
			}
			if !checks(sized(slots, slots, slots, slots, lists, lists), want) {
				t.Errorf("Check of %d slots and %d lists: not %v", slots, lists, want)
			}
		}
	}
	if !checks(api.LkState[string]{}, api.LkWrong{Where: api.LkSizes}) {
		t.Error("Check of nothing: not LkSizes")
	}
}

// sized returns a state whose slots are free and whose slices have these lengths; slices with none may be nil.
func sized(values, list, next, prev, first, last int) api.LkState[string] {
	free := func(n int) []int { return slices.Repeat([]int{-1}, n) }
	s := api.LkState[string]{Values: make([]string, values), List: free(list), Next: free(next), Prev: free(prev), First: free(first), Last: free(last)}
	if list == 0 {
		s.List = nil
	}
	if last == 0 {
		s.Last = nil
	}
	return s
}

// Numbers far out of their ranges are wrong like those just beyond, and no slot or list is looked for there.
func TestP4_1CheckRanges(t *testing.T) {
	for m := range pools(3, 2) {
		for _, n := range []int{math.MinInt, math.MinInt + 1, -2000, -3, -2, 2, 3, 4, 64, 2000, math.MaxInt - 1, math.MaxInt} {
			s := m.state()
			for k, l := range [][]int{s.List, s.Next, s.Prev, s.First, s.Last} {
				for i := range l {
					was := l[i]
					l[i] = n
					want := wrong(s)
					if n < -1 || n > 2 {
						where := api.LkSlot
						if k >= 3 {
							where = api.LkList
						}
						if want != (api.LkWrong{Where: where, Index: i}) {
							t.Fatalf("%v: the definition of the test says %v", s, want)
						}
					}
					if !checks(s, want) {
						w, e := links.Check(s)
						t.Fatalf("Check(%v): %v, %d, want %v", s, w, e, want)
					}
					l[i] = was
				}
			}
		}
	}
}

// Of several things that are wrong, the one that is listed first is returned.
func TestP4_1CheckFirst(t *testing.T) {
	base := func() api.LkState[string] {
		return api.LkState[string]{Values: make([]string, 5), List: []int{0, 0, 1, 1, -1}, Next: []int{1, -1, 3, -1, -1}, Prev: []int{-1, 0, -1, 2, -1}, First: []int{0, 2, -1}, Last: []int{1, 3, -1}}
	}
	for i, c := range []struct {
		change func(s *api.LkState[string])
		want   api.LkWrong
	}{
		{func(s *api.LkState[string]) {}, api.LkWrong{}},
		{func(s *api.LkState[string]) { s.Values, s.List[0], s.First[0] = nil, -9, 9 }, api.LkWrong{Where: api.LkSizes}},
		{func(s *api.LkState[string]) { s.Last, s.List[0] = s.Last[:2], 9 }, api.LkWrong{Where: api.LkSizes}},
		{func(s *api.LkState[string]) { s.First[0], s.Prev[4] = 9, 0 }, api.LkWrong{Where: api.LkSlot, Index: 4}},
		{func(s *api.LkState[string]) { s.List[1], s.Next[4] = 3, 0 }, api.LkWrong{Where: api.LkSlot, Index: 1}},
		{func(s *api.LkState[string]) { s.Next[3], s.List[2] = 5, -2 }, api.LkWrong{Where: api.LkSlot, Index: 2}},
		{func(s *api.LkState[string]) { s.List[0] = -1 }, api.LkWrong{Where: api.LkSlot}},
		{func(s *api.LkState[string]) { s.Last[1], s.First[2] = 2, 4 }, api.LkWrong{Where: api.LkList, Index: 1}},
		{func(s *api.LkState[string]) { s.First[2], s.Prev[0] = 4, 1 }, api.LkWrong{Where: api.LkList}},
		{func(s *api.LkState[string]) { s.First[0], s.Last[0], s.Last[2] = -1, -1, 3 }, api.LkWrong{Where: api.LkList, Index: 2}},
		{func(s *api.LkState[string]) { s.First[0], s.Last[0], s.First[1], s.Last[1] = -1, -1, -1, -1 }, api.LkWrong{Where: api.LkSlot}},
		{func(s *api.LkState[string]) { s.First[1], s.Last[1] = -1, -1 }, api.LkWrong{Where: api.LkSlot, Index: 2}},
		{func(s *api.LkState[string]) { s.List[4] = 2 }, api.LkWrong{Where: api.LkSlot, Index: 4}},
		{func(s *api.LkState[string]) { s.List[2], s.List[3] = 0, 0 }, api.LkWrong{Where: api.LkList, Index: 1}},
		{func(s *api.LkState[string]) { s.Next[1], s.Prev[2] = 2, 1 }, api.LkWrong{Where: api.LkList}},
		{func(s *api.LkState[string]) { s.Next[3], s.Prev[2] = 2, 3 }, api.LkWrong{Where: api.LkList, Index: 1}},
		{func(s *api.LkState[string]) { s.Next[1] = 1 }, api.LkWrong{Where: api.LkList}},
		{func(s *api.LkState[string]) { s.Next[1] = 0 }, api.LkWrong{Where: api.LkList}},
		{func(s *api.LkState[string]) { s.Next[0], s.Last[0] = -1, 0 }, api.LkWrong{Where: api.LkSlot, Index: 1}},
	} {
		s := base()
		c.change(&s)
		if w := wrong(s); w != c.want {
			t.Errorf("%d: the definition of the test says %v, want %v", i, w, c.want)
		}
		if !checks(s, c.want) {
			w, e := links.Check(s)
			t.Errorf("%d: Check: %v, %d, want %v", i, w, e, c.want)
		}
	}
}

// Circles of any length, which a list leads to or which none does, are wrong, and Check ends.
func TestP4_1CheckCircles(t *testing.T) {
	for _, slots := range []int{1, 2, 3, 10, 2000} {
		for _, into := range []int{0, 1, slots / 2, slots - 1} {
			m := none(slots, 2)
			for slot := range slots {
				m.lists[1] = append(m.lists[1], slot)
			}
			s := m.state()
			into = min(into, slots-1)
			s.Next[slots-1] = into
			if !checks(s, api.LkWrong{Where: api.LkList, Index: 1}) {
				t.Errorf("%d slots with a circle into %d: Check, or Load, does not find it", slots, into)
			}
			s.Prev[into] = slots - 1
			if !checks(s, api.LkWrong{Where: api.LkList, Index: 1}) {
				t.Errorf("%d slots with a circle into %d and back: Check, or Load, does not find it", slots, into)
			}
			s.First[1], s.Last[1] = -1, -1
			if !checks(s, api.LkWrong{Where: api.LkSlot}) {
				t.Errorf("%d slots in no list: Check, or Load, does not find them", slots)
			}
		}
	}
}

// P4.7

func TestP4_7OneNumber(t *testing.T) {
	for m := range small() {
		oneNumber(t, m, 1)
	}
	for _, m := range large() {
		oneNumber(t, m, len(m.values)/7+1)
	}
}

// oneNumber changes each number of the state of m, or only some if every is more than 1, to the others of its range.
func oneNumber(t *testing.T, m *plain, every int) {
	s := m.state()
	for k, l := range [][]int{s.List, s.Next, s.Prev, s.First, s.Last} {
		most := len(m.values)
		if k == 0 {
			most = len(m.lists)
		}
		for i := 0; i < len(l); i += every {
			was := l[i]
			for n := -1; n < most; n += every {
				if n == was {
					continue
				}
				l[i] = n
				w, e := links.Check(s)
				if e != api.ErrForm || w.Where == 0 || w != wrong(s) {
					t.Fatalf("%v, the number %d of %s is %d: Check: %v, %d, want %v", m.state(), i, []string{"List", "Next", "Prev", "First", "Last"}[k], n, w, e, wrong(s))
				}
			}
			l[i] = was
		}
	}
}
