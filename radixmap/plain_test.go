package radixmap_test

import (
	"math"
	"math/rand/v2"
	"slices"
	"testing"

	"polder/api"
	"polder/radixmap"
)

const (
	all     = 1024 // pages
	groups  = 16   // of 64 pages, with a middle node each
	leaves  = 128  // of 8 pages
	nodes   = 145
	owners  = 4095
	kinds   = 15
	stamps  = 1000000000000
	hugeBit = 144115188075855872 // 2^57
)

// plain is a map that says everything of each single page.
type plain struct {
	most   int
	has    [all]bool
	desc   [all]api.RmDesc
	middle [groups]int // the number of each middle node, 0 if there is none
	leaf   [leaves]int
}

func (m *plain) clone() *plain {
	c := *m
	return &c
}

// call is one of Set, or of Clear.
type call struct {
	set      bool
	from, to int
	d        api.RmDesc
}

// five is the description D of the chapter's examples.
func five() api.RmDesc { return api.RmDesc{Owner: 5, State: 1, Stamp: 3} }

// number returns the least number that no node has.
func (m *plain) number() int {
	n := 1
	for slices.Contains(m.middle[:], n) || slices.Contains(m.leaf[:], n) {
		n++
	}
	return n
}

func (m *plain) set(page int, d api.RmDesc) {
	if m.middle[page/64] == 0 {
		m.middle[page/64] = m.number()
	}
	if m.leaf[page/8] == 0 {
		m.leaf[page/8] = m.number()
	}
	m.has[page], m.desc[page] = true, d
}

func (m *plain) clear(page int) {
	m.has[page], m.desc[page] = false, api.RmDesc{}
	if !m.some(page/8*8, 8) {
		m.leaf[page/8] = 0
	}
	if !m.some(page/64*64, 64) {
		m.middle[page/64] = 0
	}
}

// some reports whether one of n pages from a page on has a description.
func (m *plain) some(from, n int) bool { return slices.Contains(m.has[from:from+n], true) }

// nodes returns how many nodes there are, by P7.7.
func (m *plain) nodes() int {
	n := 1
	for page := 0; page < all; page += 64 {
		if m.some(page, 64) {
			n++
		}
	}
	for page := 0; page < all; page += 8 {
		if m.some(page, 8) {
			n++
		}
	}
	return n
}

func isDesc(d api.RmDesc) bool {
	return d.Owner >= 0 && d.Owner <= owners && d.State >= 0 && d.State <= kinds && d.Stamp >= 0 && d.Stamp <= stamps
}

// do does a call.
func (m *plain) do(c call) api.Errno {
	if c.from < 0 || c.to < 0 || c.from > all || c.to > all || c.to < c.from {
		return api.ErrRange
	}
	if c.set && !isDesc(c.d) {
		return api.ErrArg
	}
	next := m.clone()
	for page := c.from; page < c.to; page++ {
		if c.set {
			next.set(page, c.d)
		} else {
			next.clear(page)
		}
	}
	if next.nodes() > m.most {
		return api.ErrFull
	}
	*m = *next
	return api.OK
}

// packed returns the number that the chapter gives for a description.
func packed(d api.RmDesc) uint64 {
	x := 1 + 2*uint64(d.Owner) + 8192*uint64(d.State) + 131072*uint64(d.Stamp)
	if d.Huge {
		x += hugeBit
	}
	return x
}

// state returns the state as the chapter defines it.
func (m *plain) state() api.RmState {
	s := empty(m.most)
	for i, number := range m.middle {
		if number != 0 {
			s.Nodes[0].Kids[i] = number
			s.Nodes[number] = api.RmNode{Level: 1, Kids: slices.Clone(m.leaf[8*i : 8*i+8])}
		}
	}
	for i, number := range m.leaf {
		if number == 0 {
			continue
		}
		words := make([]uint64, 8)
		for k := range words {
			if m.has[8*i+k] {
				words[k] = packed(m.desc[8*i+k])
			}
		}
		s.Nodes[number] = api.RmNode{Level: 2, Words: words}
	}
	return s
}

// empty returns the state of a map without descriptions.
func empty(most int) api.RmState {
	s := api.RmState{Most: most, Nodes: make([]api.RmNode, most)}
	for i := range s.Nodes {
		s.Nodes[i].Level = -1
	}
	s.Nodes[0] = api.RmNode{Kids: make([]int, 16)}
	return s
}

func sameNode(a, b api.RmNode) bool {
	return a.Level == b.Level && slices.Equal(a.Kids, b.Kids) && slices.Equal(a.Words, b.Words)
}

func same(a, b api.RmState) bool {
	return a.Most == b.Most && slices.EqualFunc(a.Nodes, b.Nodes, sameNode)
}

// cloneState returns a state that shares no memory with s.
func cloneState(s api.RmState) api.RmState {
	s.Nodes = slices.Clone(s.Nodes)
	for i, n := range s.Nodes {
		s.Nodes[i].Kids, s.Nodes[i].Words = slices.Clone(n.Kids), slices.Clone(n.Words)
	}
	return s
}

// pair is a page with its description.
type pair struct {
	page int
	d    api.RmDesc
}

// pairs returns the pages from from on that have a description.
func (m *plain) pairs(from int) []pair {
	var l []pair
	for page := range m.has {
		if page >= from && m.has[page] {
			l = append(l, pair{page, m.desc[page]})
		}
	}
	return l
}

// walked returns what Walk yields.
func walked(m *radixmap.Map, from int) []pair {
	var l []pair
	for page, d := range m.Walk(from) {
		l = append(l, pair{page, d})
	}
	return l
}

// start returns a new map.
func start(t *testing.T, most int) *radixmap.Map {
	t.Helper()
	m, e := radixmap.New(most)
	if m == nil || e != api.OK {
		t.Fatalf("New(%d): %d", most, e)
	}
	return m
}

// load returns the map with the state s.
func load(t *testing.T, s api.RmState) *radixmap.Map {
	t.Helper()
	m, e := radixmap.Load(s)
	if m == nil || e != api.OK {
		t.Fatalf("Load(%v): %d", s, e)
	}
	return m
}

// do does a call of a map.
func do(m *radixmap.Map, c call) api.Errno {
	if c.set {
		return m.Set(c.from, c.to, c.d)
	}
	return m.Clear(c.from, c.to)
}

// both does a call of a map and of p, and ends the test if they do not do the same.
func both(t *testing.T, m *radixmap.Map, p *plain, c call) api.Errno {
	t.Helper()
	want := p.do(c)
	if e := do(m, c); e != want {
		t.Fatalf("%v: %d, not %d, in the state %v", c, e, want, p.state())
	}
	return want
}

// is ends the test if a map is not p.
func is(t *testing.T, m *radixmap.Map, p *plain) {
	t.Helper()
	if got, want := m.Save(), p.state(); !same(got, want) {
		t.Fatalf("the map is %v, not %v", got, want)
	}
}

func want(t *testing.T, e, want api.Errno, what string) {
	t.Helper()
	if e != want {
		t.Errorf("%s: %d, not %d", what, e, want)
	}
}

func source() *rand.Rand { return rand.New(rand.NewPCG(7, 7)) }

// descs are descriptions with the least and the greatest numbers, and some between.
func descs() []api.RmDesc {
	var l []api.RmDesc
	for _, huge := range []bool{false, true} {
		for _, owner := range []int{0, 1, 5, 2048, 4094, 4095} {
			for _, state := range []int{0, 1, 8, 14, 15} {
				for _, stamp := range []int64{0, 1, 3, 1 << 31, 1 << 39, stamps - 1, stamps} {
					l = append(l, api.RmDesc{Owner: owner, State: state, Stamp: stamp, Huge: huge})
				}
			}
		}
	}
	return l
}

// badDescs are descriptions with a number that is out of its range.
func badDescs() []api.RmDesc {
	var l []api.RmDesc
	for _, d := range descs() {
		for _, n := range []int{-1, -4096, math.MinInt, 4096, 8192, math.MaxInt} {
			x := d
			x.Owner = n
			l = append(l, x)
		}
		for _, n := range []int{-1, -16, math.MinInt, 16, 32, math.MaxInt} {
			x := d
			x.State = n
			l = append(l, x)
		}
		for _, n := range []int64{-1, -stamps, math.MinInt64, stamps + 1, 1<<40 - 1, 1 << 40, math.MaxInt64} {
			x := d
			x.Stamp = n
			l = append(l, x)
		}
	}
	return append(l, api.RmDesc{Owner: -1, State: -1, Stamp: -1, Huge: true}, api.RmDesc{Owner: 4096, State: -1, Stamp: stamps + 1})
}

// odd are numbers that are no pages, and no ends of runs of pages.
func odd() []int {
	return []int{math.MinInt, math.MinInt + 1, -1024, -64, -8, -1, 1025, 1032, 2048, math.MaxInt - 1023, math.MaxInt - 1, math.MaxInt}
}

// random returns a call that often is possible, and often changes what nodes there are.
func random(r *rand.Rand) call {
	few := []api.RmDesc{five(), {Owner: 5}, {Owner: 4095, State: 15, Stamp: stamps, Huge: true}, {}}
	c := call{set: r.IntN(2) == 0, from: r.IntN(all), d: few[r.IntN(len(few))]}
	c.to = c.from + r.IntN(12)
	switch r.IntN(20) {
	case 0:
		c.from, c.to = c.from-2, c.from+r.IntN(all)
	case 1:
		c.d.Owner = r.IntN(2*owners) - owners/2
	case 2:
		c.to = c.from + 200
	case 3, 4, 5:
		c.from, c.to = c.from/8*8, c.from/8*8+8
	case 6:
		c.from, c.to = c.from/64*64, c.from/64*64+64
	}
	return c
}

// mixed returns maps of all sorts.
func mixed() []*plain {
	r := source()
	l := []*plain{{most: 1}, {most: 2}, {most: nodes}}
	full := &plain{most: nodes}
	for page := range all {
		full.set(page, api.RmDesc{Owner: page, State: page % 16, Stamp: int64(page / 3), Huge: page%5 == 0})
	}
	one := &plain{most: 3}
	one.set(1023, api.RmDesc{})
	sparse := &plain{most: nodes}
	for page := all - 1; page >= 0; page -= 11 { // numbers that descend
		sparse.set(page, five())
	}
	l = append(l, full, one, sparse)
	for _, most := range []int{3, 4, 5, 8, 20, 60, 144, 145} {
		m := &plain{most: most}
		for range 12 * most {
			m.do(random(r))
		}
		l = append(l, m)
	}
	return l
}
