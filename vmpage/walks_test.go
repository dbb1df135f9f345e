package vmpage_test

import (
	"math/rand/v2"
	"testing"

	"polder/api"
	"polder/vmpage"
)

// random returns a call that is often possible.
func (m *plain) random(r *rand.Rand) call {
	names := []string{"Reserve", "Release", "Commit", "Decommit", "Protect", "Join", "Split", "Write"}
	c := call{name: names[r.IntN(len(names))], page: r.IntN(all+2) - 1, n: 1 + r.IntN(3), guard: r.IntN(2) == 0, at: int64(r.IntN(ends+2) - 1), b: byte(r.IntN(256))}
	if r.IntN(20) == 0 {
		c.n = r.IntN(all) - 1
	}
	if c.name == "Join" || c.name == "Split" {
		c.page = c.page / group * group
		return c
	}
	if c.page < 0 || c.page >= all || r.IntN(10) == 0 {
		return c
	}
	// All pages of this kind from there on, but no more than a few groups.
	x := c.need()
	for c.n = 0; c.page+c.n < all && m.kind[c.page+c.n] == x.from && m.huge[c.page+c.n] == x.huge && c.n < 40; {
		c.n++
	}
	return c
}

// walk does random calls with a system and m, and calls after behind each one with its error.
func walk(t *testing.T, s *vmpage.System, m *plain, r *rand.Rand, steps int, after func(c call, e api.Errno)) {
	t.Helper()
	for range steps {
		c := m.random(r)
		after(c, both(t, s, m, c))
	}
}

// randomRules returns rules of all kinds; some refuse nothing for long.
func randomRules(r *rand.Rand) []api.RfRule {
	var l []api.RfRule
	for range r.IntN(12) {
		x := rule(r.IntN(kinds), 1+r.IntN(30), r.IntN(13), r.IntN(20))
		if x.Every == 0 {
			x.Times = 1
		}
		l = append(l, x)
	}
	return l
}

// P6.7

func TestP6_7Errors(t *testing.T) {
	r := source()
	seen := map[api.Errno]int{}
	for _, m := range mixed() {
		m.rules = randomRules(r)
		s := load(t, m)
		x := s.Save()
		walk(t, s, m, r, 300, func(c call, e api.Errno) {
			y := s.Save()
			seen[e]++
			if e != api.OK && !samePages(x, y) {
				t.Fatalf("%v, %d: the pages were %v, and are %v", c, e, x, y)
			}
			if e != api.OK && e != vmpage.ErrRefused && !sameRefusals(x.Refusals, y.Refusals) {
				t.Fatalf("%v, %d: the refusals were %v, and are %v", c, e, x.Refusals, y.Refusals)
			}
			if e == vmpage.ErrRefused {
				x.Refusals.Calls[c.need().call]++
				x.Refusals.Hits[c.need().call]++
				if !sameRefusals(x.Refusals, y.Refusals) {
					t.Fatalf("%v, refused: the refusals are %v, not %v", c, y.Refusals, x.Refusals)
				}
			}
			x = y
		})
	}
	for _, e := range []api.Errno{api.OK, api.ErrRange, api.ErrDown, api.ErrTwice, vmpage.ErrRefused, vmpage.ErrFault} {
		if seen[e] == 0 {
			t.Errorf("no call returned %d", e)
		}
	}
}

// P6.8 and P6.9

func TestP6_8Walk(t *testing.T) {
	r := source()
	for i, m := range mixed() {
		m.rules = randomRules(r)
		s := load(t, m)
		for range 10 {
			walk(t, s, m, r, 400, func(c call, e api.Errno) {
				if c.name == "Write" && e == api.OK {
					if b, e := s.Read(c.at); b != c.b || e != api.OK {
						t.Fatalf("%d: Read(%d): %d, %d", i, c.at, b, e)
					}
				}
			})
			is(t, s, m)
			checkReads(t, s, m)
			checkCounts(t, s)
		}
	}
}

// A write changes one byte alone.
func TestP6_8OneByte(t *testing.T) {
	m := random(source(), 20)
	for at := range m.data {
		if m.kind[at/bytes] == committed {
			m.data[at] = byte(1 + at%100)
		}
	}
	s := load(t, m)
	for at := int64(0); at < ends; at += 997 {
		both(t, s, m, call{name: "Write", at: at, b: byte(200 + at%50)})
		is(t, s, m)
	}
}

// Whatever was written is gone when a page is committed again, by whichever way it comes there.
func TestP6_8Again(t *testing.T) {
	ways := [][]call{
		{{name: "Decommit"}},
		{{name: "Decommit"}, {name: "Release"}, {name: "Reserve"}},
		{{name: "Decommit"}, {name: "Protect", guard: true}, {name: "Protect"}},
		{{name: "Join"}, {name: "Split"}, {name: "Decommit"}},
	}
	for _, way := range ways {
		for _, from := range []int{0, 1008} {
			m := &plain{}
			s := start(t)
			both(t, s, m, call{name: "Reserve", page: from, n: group})
			for range 3 {
				both(t, s, m, call{name: "Commit", page: from, n: group})
				checkReads(t, s, m)
				for at := from * bytes; at < (from+group)*bytes; at++ {
					both(t, s, m, call{name: "Write", at: int64(at), b: byte(at%255 + 1)})
				}
				is(t, s, m)
				for _, c := range way {
					c.page, c.n = from, group
					if e := both(t, s, m, c); e != api.OK {
						t.Fatalf("%v: %d", c, e)
					}
				}
				is(t, s, m)
			}
		}
	}
}

// Systems are independent.
func TestP6_8TwoSystems(t *testing.T) {
	r := source()
	m, n := random(r, 30), random(r, 30)
	a, b := load(t, m), load(t, n)
	for range 200 {
		both(t, a, m, m.random(r))
		is(t, b, n)
		both(t, b, n, n.random(r))
		is(t, a, m)
	}
}

// P6.10

func TestP6_10Back(t *testing.T) {
	r := source()
	for _, m := range mixed() {
		m.rules = randomRules(r)
		s := load(t, m)
		walk(t, s, m, r, 500, func(call, api.Errno) {})
		want(t, s.Plan(plan()), api.OK, "Plan")
		x := s.Save()
		calls := x.Refusals.Calls
		for _, first := range x.Huge {
			want(t, s.Split(first), api.OK, "Split")
			calls[api.RfSplit]++
		}
		for _, y := range x.Runs {
			switch y.Kind {
			case committed:
				want(t, s.Decommit(y.Page, y.Pages), api.OK, "Decommit")
				calls[api.RfDecommit]++
			case guard:
				want(t, s.Protect(y.Page, y.Pages, false), api.OK, "Protect")
				calls[api.RfProtect]++
			}
		}
		for _, y := range s.Save().Runs {
			want(t, s.Release(y.Page, y.Pages), api.OK, "Release")
			calls[api.RfRelease]++
		}
		is(t, s, &plain{calls: calls})
		if !samePages(s.Save(), start(t).Save()) {
			t.Errorf("%v is not as at the beginning", s.Save())
		}
	}
}
