package vmpage_test

import (
	"math"
	"math/rand/v2"
	"slices"
	"testing"

	"polder/api"
	"polder/vmpage"
)

const (
	all   = 1024 // pages
	group = 16   // pages of a huge page
	bytes = 64   // of a page
	ends  = all * bytes
	kinds = 7 // of calls
	most  = 1000000
)

const (
	free      = 0
	reserved  = 1
	committed = 2
	guard     = 3
)

// plain is a system that says everything of each single page and byte.
type plain struct {
	kind  [all]int
	huge  [all]bool
	data  [ends]byte
	rules []api.RfRule
	calls [kinds]int
	hits  [kinds]int
}

func (m *plain) clone() *plain {
	c := *m
	c.rules = slices.Clone(m.rules)
	return &c
}

// refused reports whether one of the rules refuses the n-th call of a kind.
func (m *plain) refused(kind, n int) bool {
	for _, r := range m.rules {
		if r.Kind != kind || n < r.First {
			continue
		}
		if n == r.First || r.Every > 0 && (n-r.First)%r.Every == 0 && (r.Times == 0 || (n-r.First)/r.Every < r.Times) {
			return true
		}
	}
	return false
}

// state returns the state as the chapter defines it.
func (m *plain) state() api.VmState {
	s := api.VmState{Refusals: api.RfState{Plan: api.RfPlan{Rules: slices.Clone(m.rules)}, Calls: m.calls, Hits: m.hits}}
	for p := 0; p < all; {
		n := 1
		for p+n < all && m.kind[p+n] == m.kind[p] {
			n++
		}
		if m.kind[p] != free {
			s.Runs = append(s.Runs, api.VmRun{Page: p, Pages: n, Kind: m.kind[p]})
		}
		p += n
	}
	for p := range m.kind {
		if m.huge[p] && p%group == 0 {
			s.Huge = append(s.Huge, p)
		}
		if b := [bytes]byte(m.data[p*bytes : p*bytes+bytes]); slices.Max(b[:]) > 0 {
			s.Data = append(s.Data, api.VmData{Page: p, Bytes: b})
		}
	}
	return s
}

func (m *plain) counts() api.VmCounts {
	var n api.VmCounts
	for p, kind := range m.kind {
		*[]*int{&n.Free, &n.Reserved, &n.Committed, &n.Guards}[kind]++
		if m.huge[p] && p%group == 0 {
			n.Huge++
		}
	}
	return n
}

// call is one of a method that returns an error number alone.
type call struct {
	name    string
	page, n int
	guard   bool
	at      int64
	b       byte
}

// need is the kind of call, the kind of page that it needs, whether these are of huge pages, and what becomes of them.
type need struct {
	call, from int
	huge       bool
	to         int
}

func (c call) need() need {
	switch c.name {
	case "Reserve":
		return need{0, free, false, reserved}
	case "Release":
		return need{1, reserved, false, free}
	case "Commit":
		return need{2, reserved, false, committed}
	case "Decommit":
		return need{3, committed, false, reserved}
	case "Join":
		return need{5, committed, false, committed}
	case "Split":
		return need{6, committed, true, committed}
	}
	if c.guard {
		return need{4, reserved, false, guard}
	}
	return need{4, guard, false, reserved}
}

// do does a call.
func (m *plain) do(c call) api.Errno {
	switch c.name {
	case "Write":
		return m.write(c.at, c.b)
	case "Join", "Split":
		if c.page < 0 || c.page >= all || c.page%group != 0 {
			return api.ErrRange
		}
		if e := m.checkGroup(c); e != api.OK {
			return e
		}
		c.n = group
	}
	if c.n < 1 || c.n > all || c.page < 0 || c.page >= all || c.page+c.n > all {
		return api.ErrRange
	}
	x := c.need()
	for p := c.page; p < c.page+c.n; p++ {
		if m.kind[p] != x.from || m.huge[p] != x.huge {
			return api.ErrDown
		}
	}
	if m.calls[x.call] < most {
		m.calls[x.call]++
		if m.refused(x.call, m.calls[x.call]) {
			m.hits[x.call]++
			return vmpage.ErrRefused
		}
	}
	for p := c.page; p < c.page+c.n; p++ {
		m.kind[p] = x.to
		m.huge[p] = c.name == "Join"
		if c.name != "Join" && c.name != "Split" {
			clear(m.data[p*bytes : p*bytes+bytes])
		}
	}
	return api.OK
}

// checkGroup returns what is wrong with the pages that are to be joined or split.
func (m *plain) checkGroup(c call) api.Errno {
	var single, huge int
	for p := c.page; p < c.page+group; p++ {
		if m.huge[p] {
			huge++
		} else if m.kind[p] == committed {
			single++
		}
	}
	switch {
	case c.name == "Split" && huge == 0, c.name == "Join" && single+huge < group:
		return api.ErrDown
	case c.name == "Join" && huge == group:
		return api.ErrTwice
	}
	return api.OK
}

func (m *plain) check(at int64) api.Errno {
	if at < 0 || at >= ends {
		return api.ErrRange
	}
	if m.kind[at/bytes] != committed {
		return vmpage.ErrFault
	}
	return api.OK
}

func (m *plain) write(at int64, b byte) api.Errno {
	if e := m.check(at); e != api.OK {
		return e
	}
	m.data[at] = b
	return api.OK
}

func (m *plain) read(at int64) (byte, api.Errno) {
	if e := m.check(at); e != api.OK {
		return 0, e
	}
	return m.data[at], api.OK
}

// do does a call of a system.
func do(s *vmpage.System, c call) api.Errno {
	switch c.name {
	case "Reserve":
		return s.Reserve(c.page, c.n)
	case "Release":
		return s.Release(c.page, c.n)
	case "Commit":
		return s.Commit(c.page, c.n)
	case "Decommit":
		return s.Decommit(c.page, c.n)
	case "Protect":
		return s.Protect(c.page, c.n, c.guard)
	case "Join":
		return s.Join(c.page)
	case "Split":
		return s.Split(c.page)
	case "Write":
		return s.Write(c.at, c.b)
	}
	panic(c.name)
}

// spanCalls returns the calls that have n pages from a page on.
func spanCalls(page, n int) []call {
	return []call{
		{name: "Reserve", page: page, n: n}, {name: "Release", page: page, n: n}, {name: "Commit", page: page, n: n},
		{name: "Decommit", page: page, n: n}, {name: "Protect", page: page, n: n, guard: true}, {name: "Protect", page: page, n: n},
	}
}

// groupCalls returns the calls that have a huge page.
func groupCalls(page int) []call {
	return []call{{name: "Join", page: page}, {name: "Split", page: page}}
}

// odd are numbers that are no pages, no numbers of pages from some page on, or both.
func odd() []int {
	return []int{math.MinInt, math.MinInt + 1, math.MinInt + 16, -1024, -17, -16, -1, 0, 1025, 1040, 2048, 65536, math.MaxInt - 1023, math.MaxInt - 15, math.MaxInt - 1, math.MaxInt}
}

func source() *rand.Rand { return rand.New(rand.NewPCG(6, 6)) }

func rule(kind, first, every, times int) api.RfRule {
	return api.RfRule{Kind: kind, First: first, Every: every, Times: times}
}

func plan(rules ...api.RfRule) api.RfPlan { return api.RfPlan{Rules: rules} }

// random returns a system with runs of random kinds and lengths, with some huge pages and some bytes.
func random(r *rand.Rand, longest int) *plain {
	var m plain
	for p := 0; p < all; {
		kind := r.IntN(4)
		for n := 1 + r.IntN(longest); n > 0 && p < all; n-- {
			m.kind[p] = kind
			p++
		}
	}
	for p := 0; p < all; p += group {
		if r.IntN(6) > 0 {
			continue
		}
		for q := p; q < p+group; q++ {
			m.kind[q], m.huge[q] = committed, true
		}
	}
	for p, kind := range m.kind {
		if kind != committed || r.IntN(3) > 0 {
			continue
		}
		for range 1 + r.IntN(3) {
			m.data[p*bytes+r.IntN(bytes)] = byte(1 + r.IntN(255))
		}
	}
	return &m
}

// mixed returns systems of all sorts.
func mixed() []*plain {
	r := source()
	l := []*plain{{}}
	for kind := reserved; kind <= guard; kind++ {
		var m plain
		for p := range m.kind {
			m.kind[p] = kind
		}
		l = append(l, &m)
	}
	var huge plain
	for p := range huge.kind {
		huge.kind[p], huge.huge[p] = committed, true
	}
	for at := range huge.data {
		huge.data[at] = byte(at * 7)
	}
	l = append(l, &huge)
	for _, longest := range []int{1, 2, 5, 20, 70, 300} {
		l = append(l, random(r, longest), random(r, longest))
	}
	return l
}

// load returns the system with the state of m.
func load(t *testing.T, m *plain) *vmpage.System {
	t.Helper()
	return loadState(t, m.state())
}

func loadState(t *testing.T, x api.VmState) *vmpage.System {
	t.Helper()
	s, e := vmpage.Load(x)
	if s == nil || e != api.OK {
		t.Fatalf("Load(%v): %d", x, e)
	}
	return s
}

// start returns a new system.
func start(t *testing.T, rules ...api.RfRule) *vmpage.System {
	t.Helper()
	s, e := vmpage.New(plan(rules...))
	if s == nil || e != api.OK {
		t.Fatalf("New(%v): %d", rules, e)
	}
	return s
}

func samePages(a, b api.VmState) bool {
	return slices.Equal(a.Runs, b.Runs) && slices.Equal(a.Huge, b.Huge) && slices.Equal(a.Data, b.Data)
}

func sameRefusals(a, b api.RfState) bool {
	return slices.Equal(a.Plan.Rules, b.Plan.Rules) && a.Calls == b.Calls && a.Hits == b.Hits
}

func same(a, b api.VmState) bool { return samePages(a, b) && sameRefusals(a.Refusals, b.Refusals) }

// cloneState returns a state that shares no memory with x.
func cloneState(x api.VmState) api.VmState {
	x.Runs, x.Huge, x.Data = slices.Clone(x.Runs), slices.Clone(x.Huge), slices.Clone(x.Data)
	x.Refusals.Plan.Rules = slices.Clone(x.Refusals.Plan.Rules)
	return x
}

// is fails the test if a system is not m.
func is(t *testing.T, s *vmpage.System, m *plain) {
	t.Helper()
	if got, want := s.Save(), m.state(); !same(got, want) {
		t.Fatalf("the system is %v, not %v", got, want)
	}
}

// both does a call with a system and m, and ends the test if they do not do the same.
func both(t *testing.T, s *vmpage.System, m *plain, c call) api.Errno {
	t.Helper()
	want := m.do(c)
	if e := do(s, c); e != want {
		t.Fatalf("%v: %d, not %d, in the state %v", c, e, want, m.state())
	}
	return want
}

// want fails the test if e is not the error that is wanted.
func want(t *testing.T, e, want api.Errno, what string) {
	t.Helper()
	if e != want {
		t.Errorf("%s: %d, not %d", what, e, want)
	}
}
