package radixmap_test

import (
	"math"
	"slices"
	"testing"

	"polder/api"
	"polder/radixmap"
)

func TestExamples(t *testing.T) {
	m := start(t, 4)
	if x, e := radixmap.Pack(five()); x != 401419 || e != api.OK {
		t.Errorf("Pack: %d, %d", x, e)
	}
	if _, e := radixmap.Unpack(2); e != api.ErrForm {
		t.Errorf("Unpack(2): %d", e)
	}
	count := func(n int) {
		t.Helper()
		if m.Nodes() != n {
			t.Errorf("Nodes: %d, not %d", m.Nodes(), n)
		}
	}
	want(t, m.Set(7, 9, five()), api.OK, "Set(7, 9)")
	count(4)
	want(t, m.Set(64, 65, five()), api.ErrFull, "Set(64, 65)")
	if l := m.Runs(); !slices.Equal(l, []api.RmRun{{From: 7, To: 9, Desc: five()}}) {
		t.Errorf("Runs: %v", l)
	}
	_, e := m.Get(9)
	want(t, e, api.ErrNone, "Get(9)")
	if l, e := m.Owned(5); !slices.Equal(l, []int{7, 8}) || e != api.OK {
		t.Errorf("Owned(5): %v, %d", l, e)
	}
	want(t, m.Clear(7, 8), api.OK, "Clear(7, 8)")
	count(3)
	want(t, m.Set(8, 16, five()), api.OK, "Set(8, 16)")
	count(3)
	s := m.Save()
	if s.Nodes[0].Kids[0] != 1 || s.Nodes[1].Kids[0] != 0 || s.Nodes[1].Kids[1] != 3 || s.Nodes[2].Level != -1 || s.Nodes[3].Level != 2 {
		t.Errorf("Save: %v", s)
	}
	want(t, m.Clear(0, 1024), api.OK, "Clear(0, 1024)")
	count(1)
	want(t, m.Set(5, 4, five()), api.ErrRange, "Set(5, 4)")
}

// copied returns a pointer to a copy of a map that has descriptions.
func copied(m *radixmap.Map) *radixmap.Map {
	m.Set(0, 100, five())
	c := *m
	return &c
}

func TestP7NotMade(t *testing.T) {
	for name, m := range map[string]*radixmap.Map{"nil": nil, "zero": new(radixmap.Map), "copy": copied(start(t, nodes))} {
		for _, page := range []int{-1, 0, 7} {
			want(t, m.Set(page, 8, five()), api.ErrNil, name+": Set")
			want(t, m.Set(page, 8, api.RmDesc{Owner: -1}), api.ErrNil, name+": Set")
			want(t, m.Clear(page, 8), api.ErrNil, name+": Clear")
			if d, e := m.Get(page); d != (api.RmDesc{}) || e != api.ErrNil {
				t.Errorf("%s: Get(%d): %v, %d", name, page, d, e)
			}
			if l, e := m.Owned(page); len(l) != 0 || e != api.ErrNil {
				t.Errorf("%s: Owned(%d): %v, %d", name, page, l, e)
			}
			for p, d := range m.Walk(page) {
				t.Errorf("%s: Walk(%d) yields %d, %v", name, page, p, d)
			}
		}
		if n, l, s := m.Nodes(), m.Runs(), m.Save(); n != 0 || len(l) != 0 || !same(s, api.RmState{}) {
			t.Errorf("%s: Nodes: %d, Runs: %v, Save: %v", name, n, l, s)
		}
	}
}

// P7.2

func TestP7_2New(t *testing.T) {
	for most := -20; most <= 200; most++ {
		m, e := radixmap.New(most)
		if most < 1 || most > nodes {
			if m != nil || e != api.ErrRange {
				t.Errorf("New(%d): %v, %d, not ErrRange", most, m != nil, e)
			}
			continue
		}
		if m == nil || e != api.OK {
			t.Fatalf("New(%d): %d", most, e)
		}
		if s := m.Save(); !same(s, empty(most)) {
			t.Errorf("New(%d) is %v", most, s)
		}
		for page := range all {
			if d, e := m.Get(page); d != (api.RmDesc{}) || e != api.ErrNone {
				t.Fatalf("Get(%d): %v, %d", page, d, e)
			}
		}
		if m.Nodes() != 1 || len(m.Runs()) != 0 || len(walked(m, 0)) != 0 {
			t.Errorf("New(%d): %d nodes, %v", most, m.Nodes(), m.Runs())
		}
	}
	for _, most := range []int{math.MinInt, math.MaxInt, 1 << 32, 1<<32 + 1} {
		if m, e := radixmap.New(most); m != nil || e != api.ErrRange {
			t.Errorf("New(%d): %v, %d, not ErrRange", most, m != nil, e)
		}
	}
}

// P7.3

// edges are numbers about the ends of leaves, of middle nodes, and of all.
func edges() []int {
	return append(odd(), 0, 1, 7, 8, 9, 15, 16, 63, 64, 65, 72, 127, 128, 512, 960, 1015, 1016, 1022, 1023, 1024)
}

func TestP7_3Ranges(t *testing.T) {
	for _, p := range mixed() {
		s := p.state()
		for _, from := range edges() {
			for _, to := range edges() {
				for _, c := range []call{{true, from, to, api.RmDesc{Owner: 9, Huge: true}}, {false, from, to, api.RmDesc{}}, {true, from, to, api.RmDesc{State: 16}}} {
					m, q := load(t, s), p.clone()
					both(t, m, q, c)
					is(t, m, q)
				}
			}
		}
	}
}

// Of several errors the first one is returned: of the range, of the description, of the number of nodes.
func TestP7_3ErrorsInOrder(t *testing.T) {
	m := start(t, 3)
	want(t, m.Set(0, 1, five()), api.OK, "Set")
	bad := api.RmDesc{Stamp: -1}
	want(t, m.Set(-1, 1025, bad), api.ErrRange, "the range and the description")
	want(t, m.Set(2, 1, bad), api.ErrRange, "the range and the description")
	want(t, m.Set(8, 9, bad), api.ErrArg, "the description and the number")
	want(t, m.Set(9, 9, bad), api.ErrArg, "the description for no pages")
	want(t, m.Set(1024, 1024, bad), api.ErrArg, "the description for no pages")
	want(t, m.Set(0, 1025, five()), api.ErrRange, "the range and the number")
	want(t, m.Set(8, 9, five()), api.ErrFull, "the number")
	want(t, m.Set(9, 9, five()), api.OK, "no pages")
	want(t, m.Set(1024, 1024, five()), api.OK, "no pages")
	want(t, m.Clear(2, 1), api.ErrRange, "the range of Clear")
	if l := walked(m, 0); !slices.Equal(l, []pair{{0, five()}}) {
		t.Errorf("the pages are %v", l)
	}
}

func TestP7_3Descriptions(t *testing.T) {
	m := start(t, 4)
	for _, d := range descs() {
		want(t, m.Set(6, 10, d), api.OK, "Set")
		for _, page := range []int{6, 7, 8, 9} {
			if x, e := m.Get(page); x != d || e != api.OK {
				t.Errorf("Get(%d): %v, %d, not %v", page, x, e, d)
			}
		}
	}
	s := m.Save()
	for _, d := range badDescs() {
		want(t, m.Set(6, 10, d), api.ErrArg, "Set")
	}
	if !same(m.Save(), s) {
		t.Errorf("the map is %v, not %v", m.Save(), s)
	}
}

// A range gets descriptions just if there are as many nodes as it needs, at the end.
func TestP7_3Full(t *testing.T) {
	for _, from := range []int{0, 5, 8, 63, 64, 100, 512, 1015} {
		for _, to := range []int{8, 9, 16, 17, 64, 65, 127, 128, 129, 520, 640, 1016, 1017, 1024} {
			if to < from {
				continue
			}
			p := &plain{most: nodes}
			p.do(call{true, from, to, five()})
			n := p.nodes()
			for _, most := range []int{n - 1, n, n + 1} {
				if most < 1 || most > nodes {
					continue
				}
				m, q := start(t, most), &plain{most: most}
				both(t, m, q, call{true, from, to, five()})
				is(t, m, q)
				// What is there may be changed, if there is no number left or not.
				both(t, m, q, call{true, from, to, api.RmDesc{Owner: 6}})
				is(t, m, q)
			}
		}
	}
}

// Nodes that are there already are not counted twice, wherever they are in the range.
func TestP7_3FullBeside(t *testing.T) {
	for _, first := range []int{64, 71, 72, 100, 127, 128, 136, 255} {
		for most := 3; most <= 30; most++ {
			m, q := start(t, most), &plain{most: most}
			both(t, m, q, call{true, first, first + 1, api.RmDesc{Owner: 2}})
			for _, c := range []call{{true, 60, 140, five()}, {true, 120, 200, five()}, {true, 64, 128, five()}, {true, 90, 110, five()}} {
				both(t, m, q, c)
				is(t, m, q)
			}
		}
	}
}

// The least number is taken, the middle node's before the leaf's, page by page.
func TestP7_3Numbers(t *testing.T) {
	m := start(t, nodes)
	want(t, m.Set(1023, 1024, five()), api.OK, "Set")
	want(t, m.Set(60, 73, five()), api.OK, "Set")
	s := m.Save()
	if s.Nodes[0].Kids[15] != 1 || s.Nodes[1].Kids[7] != 2 || s.Nodes[0].Kids[0] != 3 || s.Nodes[3].Kids[7] != 4 || s.Nodes[0].Kids[1] != 5 || s.Nodes[5].Kids[0] != 6 || s.Nodes[5].Kids[1] != 7 {
		t.Fatalf("the numbers are those of %v", s)
	}
	want(t, m.Clear(1000, 1024), api.OK, "Clear")
	want(t, m.Clear(64, 72), api.OK, "Clear")
	want(t, m.Set(64, 65, five()), api.OK, "Set")
	want(t, m.Set(500, 501, five()), api.OK, "Set")
	s = m.Save()
	if s.Nodes[5].Kids[0] != 1 || s.Nodes[0].Kids[7] != 2 || s.Nodes[2].Kids[6] != 6 {
		t.Fatalf("the numbers are those of %v", s)
	}
}

// A leaf, and its middle node, are given back with their last description, and not before.
func TestP7_3Back(t *testing.T) {
	r := source()
	for range 20 {
		m, p := start(t, nodes), &plain{most: nodes}
		both(t, m, p, call{true, 120, 200, five()})
		for _, page := range r.Perm(100) {
			both(t, m, p, call{from: 110 + page, to: 111 + page})
			is(t, m, p)
		}
		if m.Nodes() != 1 {
			t.Fatalf("%d nodes", m.Nodes())
		}
	}
}

func TestP7_3Walk(t *testing.T) {
	r := source()
	for _, p := range mixed() {
		m := load(t, p.state())
		for range 400 {
			both(t, m, p, random(r))
			is(t, m, p)
		}
	}
}

// P7.7

func TestP7_7Nodes(t *testing.T) {
	r := source()
	for _, p := range mixed() {
		m := load(t, p.state())
		for range 400 {
			if m.Nodes() != p.nodes() {
				t.Fatalf("%d nodes, not %d", m.Nodes(), p.nodes())
			}
			both(t, m, p, random(r))
		}
	}
}

// P7.8

func TestP7_8Errors(t *testing.T) {
	r := source()
	seen := map[api.Errno]int{}
	for _, p := range mixed() {
		m := load(t, p.state())
		for range 400 {
			s := m.Save()
			e := both(t, m, p, random(r))
			seen[e]++
			if e != api.OK && !same(m.Save(), s) {
				t.Fatalf("an error, %d, and the map was %v, and is %v", e, s, m.Save())
			}
		}
	}
	for _, e := range []api.Errno{api.OK, api.ErrRange, api.ErrArg, api.ErrFull} {
		if seen[e] == 0 {
			t.Errorf("no call returned %d", e)
		}
	}
}

func TestP7_8ClearAll(t *testing.T) {
	for _, p := range mixed() {
		m := load(t, p.state())
		want(t, m.Clear(0, 1024), api.OK, "Clear")
		if s := m.Save(); !same(s, empty(p.most)) || !same(s, start(t, p.most).Save()) {
			t.Errorf("after Clear of all, the state is %v", s)
		}
	}
}

// P7.9

// A call for a range is that for its pages, one by one; if it would be too much, one of these fails.
func TestP7_9Single(t *testing.T) {
	r := source()
	for _, p := range mixed() {
		m := load(t, p.state())
		for range 100 {
			c := random(r)
			one := load(t, m.Save())
			bad := api.OK
			for page := c.from; page < c.to && bad == api.OK; page++ {
				bad = do(one, call{c.set, page, page + 1, c.d})
			}
			e := do(m, c)
			if (e == api.OK) != (bad == api.OK) && c.from != c.to {
				t.Fatalf("%v: %d, but %d for one page", c, e, bad)
			}
			if e == api.OK && !same(m.Save(), one.Save()) {
				t.Fatalf("%v: %v, but %v for its pages", c, m.Save(), one.Save())
			}
		}
	}
}
