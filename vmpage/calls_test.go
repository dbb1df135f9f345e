package vmpage_test

import (
	"slices"
	"testing"

	"polder/api"
	"polder/vmpage"
)

// P6.3

// What is no range is said before what is wrong with the kinds of pages.
func TestP6_3Range(t *testing.T) {
	spans := [][2]int{{0, 0}, {0, -1}, {0, 1025}, {1, 1024}, {1023, 2}, {1023, 0}, {1024, 1}, {1024, 0}, {1025, -1}, {-1, 1}, {-1, 2}, {-1, 1025}, {-5, 1029}, {512, 513}}
	for _, n := range odd() {
		for _, page := range append(odd(), 1, 16, 512, 1008, 1023, 1024) {
			for _, x := range [][2]int{{n, page}, {page, n}} {
				if x[0] < 0 || x[0] >= all || x[1] < 1 || x[1] > all-x[0] {
					spans = append(spans, x)
				}
			}
		}
	}
	for kind := range 4 {
		var m plain
		for p := range m.kind {
			m.kind[p] = kind
		}
		s := load(t, &m)
		for _, x := range spans {
			for _, c := range spanCalls(x[0], x[1]) {
				if e := do(s, c); e != api.ErrRange {
					t.Errorf("%v with pages of the kind %d: %d", c, kind, e)
				}
			}
		}
		is(t, s, &m)
	}
}

// Three pages in each state, at the beginning, between and at the end, with each call of each part of them.
func TestP6_3Kinds(t *testing.T) {
	for _, from := range []int{0, 500, 1021} {
		for number := range 4 * 4 * 4 {
			var m plain
			m.kind[from], m.kind[from+1], m.kind[from+2] = number%4, number/4%4, number/16
			for p := from; p < from+3; p++ {
				if m.kind[p] == committed {
					m.data[p*bytes], m.data[p*bytes+63] = 1, 255
				}
			}
			for page := from; page < from+3; page++ {
				for n := 1; page+n <= from+3; n++ {
					for _, c := range spanCalls(page, n) {
						checkCall(t, m.clone(), c)
					}
				}
			}
		}
	}
}

// checkCall does a call with the system m, and ends the test if it does not do what it should.
func checkCall(t *testing.T, m *plain, c call) api.Errno {
	t.Helper()
	s := load(t, m)
	e := both(t, s, m, c)
	if got, want := s.Save(), m.state(); !same(got, want) {
		t.Fatalf("%v, %d: the system is %v, not %v", c, e, got, want)
	}
	return e
}

func TestP6_3AllPages(t *testing.T) {
	for kind := range 4 {
		var m plain
		for p := range m.kind {
			m.kind[p] = kind
		}
		for at := range m.data {
			if kind == committed {
				m.data[at] = byte(1 + at%255)
			}
		}
		for _, c := range spanCalls(0, all) {
			right := c.need().from == kind
			if e := checkCall(t, m.clone(), c); (e == api.OK) != right {
				t.Errorf("%v with pages of the kind %d: %d", c, kind, e)
			}
			for _, p := range []int{0, 1, 511, 1022, 1023} {
				other := m.clone()
				other.kind[p] = (kind + 1) % 4
				clear(other.data[p*bytes : p*bytes+bytes])
				if e := checkCall(t, other, c); e != api.ErrDown {
					t.Errorf("%v with one page of the kind %d: %d", c, other.kind[p], e)
				}
			}
		}
	}
}

// Pages of a huge page are not decommitted, and those beside it are.
func TestP6_3Huge(t *testing.T) {
	for _, first := range []int{0, 16, 512, 1008} {
		var m plain
		for p := range m.kind {
			m.kind[p], m.huge[p] = committed, p >= first && p < first+group
		}
		for at := range m.data {
			m.data[at] = byte(at % 255)
		}
		for page := max(0, first-2); page < min(all, first+group+2); page++ {
			for _, n := range []int{1, 2, 15, 16, 17, 20} {
				for _, c := range spanCalls(page, n) {
					checkCall(t, m.clone(), c)
				}
			}
		}
	}
}

// P6.4

func TestP6_4Range(t *testing.T) {
	var m plain
	for p := range m.kind {
		m.kind[p], m.huge[p] = committed, p/group%2 == 0
	}
	s := load(t, &m)
	for page := -40; page < all+40; page++ {
		for _, c := range groupCalls(page) {
			want := api.ErrRange
			if page >= 0 && page < all && page%16 == 0 {
				want = map[string]map[bool]api.Errno{"Join": {true: api.ErrTwice, false: api.OK}, "Split": {true: api.OK, false: api.ErrDown}}[c.name][m.huge[page]]
			}
			if e := checkCall(t, m.clone(), c); e != want {
				t.Errorf("%v: %d, not %d", c, e, want)
			}
		}
	}
	for _, page := range odd() {
		if page == 0 {
			continue
		}
		want(t, s.Join(page), api.ErrRange, "Join")
		want(t, s.Split(page), api.ErrRange, "Split")
	}
	is(t, s, &m)
}

// A single page that is not committed, inside and beside the 16 pages.
func TestP6_4Kinds(t *testing.T) {
	for _, first := range []int{0, 16, 512, 1008} {
		for page := max(0, first-1); page < min(all, first+group+1); page++ {
			for kind := range 4 {
				var m plain
				for p := max(0, first-4); p < min(all, first+group+4); p++ {
					m.kind[p] = committed
					m.data[p*bytes+p%bytes] = byte(p%255 + 1)
				}
				m.kind[page] = kind
				if kind != committed {
					clear(m.data[page*bytes : page*bytes+bytes])
				}
				inside := page >= first && page < first+group
				for _, c := range groupCalls(first) {
					fails := c.name == "Split" || inside && kind != committed
					if e := checkCall(t, m.clone(), c); e != map[bool]api.Errno{true: api.ErrDown, false: api.OK}[fails] {
						t.Errorf("%v with %d of the kind %d: %d", c, page, kind, e)
					}
				}
			}
		}
	}
}

func TestP6_4Bytes(t *testing.T) {
	s := start(t)
	want(t, s.Reserve(0, all), api.OK, "Reserve")
	want(t, s.Commit(0, all), api.OK, "Commit")
	for at := range int64(ends) {
		want(t, s.Write(at, byte(at%251)), api.OK, "Write")
	}
	for round := range 3 {
		for first := 0; first < all; first += group {
			want(t, s.Join(first), api.OK, "Join")
			want(t, s.Join(first), api.ErrTwice, "Join")
			if round == 1 {
				want(t, s.Write(int64(first*bytes), byte(first*bytes%251)), api.OK, "Write")
			}
		}
		if n, e := s.Counts(); n.Huge != all/group || n.Committed != all || e != api.OK {
			t.Fatalf("Counts: %v, %d", n, e)
		}
		checkBytes(t, s)
		for first := 0; first < all; first += group {
			want(t, s.Split(first), api.OK, "Split")
			want(t, s.Split(first), api.ErrDown, "Split")
		}
		checkBytes(t, s)
	}
}

func checkBytes(t *testing.T, s *vmpage.System) {
	t.Helper()
	for at := range int64(ends) {
		if b, e := s.Read(at); b != byte(at%251) || e != api.OK {
			t.Fatalf("Read(%d): %d, %d", at, b, e)
		}
	}
}

// The calls that are counted and refused, of P6.3 and P6.4

// possible returns a system in which a call with the pages 0 to 15 is possible.
func possible(c call) *plain {
	var m plain
	x := c.need()
	for p := range group {
		m.kind[p], m.huge[p] = x.from, x.huge
		if x.from == committed {
			m.data[p*bytes+p] = byte(p + 1)
		}
	}
	return &m
}

// allCalls returns one call of each sort, with the pages 0 to 15.
func allCalls() []call { return slices.Concat(spanCalls(0, group), groupCalls(0)) }

// Each call is one of its own kind: it is refused by rules of that kind, and by no other ones.
func TestP6_3Kind(t *testing.T) {
	for _, c := range allCalls() {
		for kind := range kinds {
			m := possible(c)
			m.rules = []api.RfRule{rule(kind, 1, 0, 1)}
			e := checkCall(t, m, c)
			if (e == vmpage.ErrRefused) != (kind == c.need().call) || e != vmpage.ErrRefused && e != api.OK {
				t.Errorf("%v, refusals of the kind %d: %d", c, kind, e)
			}
			var counted [kinds]int
			counted[c.need().call] = 1
			if m.calls != counted {
				t.Errorf("%v: counted %v", c, m.calls)
			}
		}
	}
}

// A call that is not possible is not counted, and not refused either.
func TestP6_3Impossible(t *testing.T) {
	for _, c := range allCalls() {
		m := possible(c)
		m.kind[7] = (m.kind[7] + 1) % 4
		for p := range m.huge {
			m.huge[p] = false
		}
		clear(m.data[:])
		m.rules = []api.RfRule{rule(c.need().call, 1, 1, 0)}
		s := load(t, m)
		want(t, do(s, c), api.ErrDown, c.name)
		c.page = -16
		want(t, do(s, c), api.ErrRange, c.name)
		is(t, s, m)
	}
	m := possible(call{name: "Split"})
	m.rules = []api.RfRule{rule(api.RfJoin, 1, 1, 0)}
	s := load(t, m)
	want(t, s.Join(0), api.ErrTwice, "Join")
	is(t, s, m)
}

// Which of some calls of a kind are refused: the numbers of those that were possible count.
func TestP6_3Refused(t *testing.T) {
	for _, c := range allCalls() {
		m := possible(c)
		m.rules = []api.RfRule{rule(c.need().call, 3, 2, 2), rule(c.need().call, 4, 0, 1), rule(c.need().call, 8, 4, 0)}
		s := load(t, m)
		var refused []int
		for n := 1; n <= 20; n++ {
			if both(t, s, m, c) == vmpage.ErrRefused {
				refused = append(refused, n)
				is(t, s, m)
				continue
			}
			if e := both(t, s, m, c); e == api.OK || e == vmpage.ErrRefused {
				t.Fatalf("%v a second time: %d", c, e)
			}
			is(t, s, m)
			before := possible(c)
			m.kind, m.huge, m.data = before.kind, before.huge, before.data
			s = load(t, m)
		}
		if !slices.Equal(refused, []int{3, 4, 5, 8, 12, 16, 20}) {
			t.Errorf("%v: refused %v", c, refused)
		}
	}
}

// The calls of one system, one after the other, with rules of all kinds.
func TestP6_3RefusedInTurn(t *testing.T) {
	var rules []api.RfRule
	for kind := range kinds {
		rules = append(rules, rule(kind, 2, 3, 0))
	}
	s, m := start(t, rules...), &plain{rules: rules}
	cycle := []call{
		{name: "Reserve", n: 16}, {name: "Protect", n: 16, guard: true}, {name: "Protect", n: 16}, {name: "Commit", n: 16},
		{name: "Join"}, {name: "Split"}, {name: "Decommit", n: 16}, {name: "Release", n: 16},
	}
	for range 9 {
		for _, c := range cycle {
			for both(t, s, m, c) == vmpage.ErrRefused {
				is(t, s, m)
			}
			is(t, s, m)
		}
	}
	if m.hits != [kinds]int{4, 4, 4, 4, 9, 4, 4} {
		t.Errorf("refused %v of %v", m.hits, m.calls)
	}
}

// After the call 10^6 of a kind, calls of it are neither counted nor refused; those of other kinds are.
func TestP6_3Most(t *testing.T) {
	for _, c := range allCalls() {
		m := possible(c)
		for kind := range kinds {
			m.rules = append(m.rules, rule(kind, 1, 1, 0))
			m.calls[kind], m.hits[kind] = 5, 5
		}
		kind := c.need().call
		m.calls[kind], m.hits[kind] = most-1, most-1
		s := load(t, m)
		want(t, both(t, s, m, c), vmpage.ErrRefused, c.name+", the last one that is counted")
		is(t, s, m)
		if m.calls[kind] != most || m.hits[kind] != most {
			t.Fatalf("%v, %v", m.calls, m.hits)
		}
		last := s.Save().Refusals
		want(t, both(t, s, m, c), api.OK, c.name+", one more")
		is(t, s, m)
		if !sameRefusals(s.Save().Refusals, last) {
			t.Errorf("%v is counted", c)
		}
		other := call{name: "Reserve", page: 16, n: 4}
		if kind == api.RfReserve {
			other = call{name: "Release", page: 0, n: 4}
		}
		want(t, both(t, s, m, other), vmpage.ErrRefused, other.name+", of another kind")
		is(t, s, m)
	}
}
