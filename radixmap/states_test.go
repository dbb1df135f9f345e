package radixmap_test

import (
	"math"
	"math/rand/v2"
	"slices"
	"testing"

	"polder/api"
	"polder/radixmap"
)

// wrong reports whether the node i of a state is wrong, clause by clause as the chapter says it.
func wrong(s api.RmState, i int) bool {
	n := s.Nodes[i]
	if i == 0 && n.Level != 0 || i > 0 && n.Level != -1 && n.Level != 1 && n.Level != 2 {
		return true
	}
	if len(n.Kids) != map[int]int{-1: 0, 0: 16, 1: 8, 2: 0}[n.Level] || len(n.Words) != map[int]int{-1: 0, 0: 0, 1: 0, 2: 8}[n.Level] {
		return true
	}
	for _, kid := range n.Kids {
		if kid != 0 && (kid < 0 || kid >= len(s.Nodes) || s.Nodes[kid].Level != n.Level+1) {
			return true
		}
	}
	for _, x := range n.Words {
		if _, right := unpacked(x); x != 0 && !right {
			return true
		}
	}
	if n.Level == -1 || n.Level == 0 {
		return false
	}
	times := 0
	for _, other := range s.Nodes {
		for _, kid := range other.Kids {
			if kid == i && other.Level == n.Level-1 {
				times++
			}
		}
	}
	return times != 1 || n.Level == 1 && slices.Equal(n.Kids, make([]int, 8)) || n.Level == 2 && slices.Equal(n.Words, make([]uint64, 8))
}

// verdict returns what Check is to return.
func verdict(s api.RmState) (int, api.Errno) {
	if s.Most < 1 || s.Most > nodes {
		return 0, api.ErrRange
	}
	if len(s.Nodes) != s.Most {
		return 0, api.ErrForm
	}
	for i := range s.Nodes {
		if wrong(s, i) {
			return i, api.ErrForm
		}
	}
	return 0, api.OK
}

// check checks Check and Load of a state, that they do not change it, and that what is loaded has it.
func check(t *testing.T, s api.RmState) api.Errno {
	t.Helper()
	before := cloneState(s)
	node, want := verdict(s)
	if n, e := radixmap.Check(s); n != node || e != want {
		t.Fatalf("Check(%v): %d, %d, not %d, %d", s, n, e, node, want)
	}
	m, e := radixmap.Load(s)
	if e != want || (m == nil) != (e != api.OK) {
		t.Fatalf("Load(%v): %v, %d, not %d", s, m != nil, e, want)
	}
	if !same(s, before) {
		t.Fatalf("a state was changed from %v to %v", before, s)
	}
	if e == api.OK && !same(m.Save(), s) {
		t.Fatalf("Save of Load of %v: %v", s, m.Save())
	}
	return e
}

// P7.2

func TestP7_2Valid(t *testing.T) {
	for _, p := range mixed() {
		want(t, check(t, p.state()), api.OK, "the state of a map")
	}
	// Numbers need not be the least ones, and lists that are empty may be nil or not.
	s := empty(9)
	s.Nodes[0].Kids[3], s.Nodes[0].Kids[2] = 4, 8
	s.Nodes[4] = api.RmNode{Level: 1, Kids: []int{0, 7, 0, 0, 0, 0, 0, 1}, Words: []uint64{}}
	s.Nodes[8] = api.RmNode{Level: 1, Kids: []int{6, 0, 0, 0, 0, 0, 0, 0}}
	s.Nodes[1] = api.RmNode{Level: 2, Words: []uint64{1, 0, 0, 0, 0, 0, 0, 0}, Kids: []int{}}
	s.Nodes[6] = api.RmNode{Level: 2, Words: []uint64{0, 0, 0, 0, 0, 0, 0, 401419}}
	s.Nodes[7] = api.RmNode{Level: 2, Words: []uint64{3, 3, 3, 3, 3, 3, 3, 3}}
	s.Nodes[5] = api.RmNode{Level: -1, Kids: []int{}, Words: []uint64{}}
	want(t, check(t, s), api.OK, "numbers that are not the least ones")
	m := load(t, s)
	if l := m.Runs(); !slices.Equal(l, []api.RmRun{{From: 135, To: 136, Desc: five()}, {From: 200, To: 208, Desc: api.RmDesc{Owner: 1}}, {From: 248, To: 249}}) || m.Nodes() != 6 {
		t.Errorf("Runs: %v, %d nodes", l, m.Nodes())
	}
	want(t, m.Set(0, 1, five()), api.OK, "Set")
	if s := m.Save(); s.Nodes[0].Kids[0] != 2 || s.Nodes[2].Kids[0] != 3 {
		t.Errorf("Set takes other numbers: %v", s)
	}
}

func TestP7_2Sizes(t *testing.T) {
	s := empty(3)
	for _, most := range []int{math.MinInt, -1, 0, 146, math.MaxInt} {
		s.Most = most
		want(t, check(t, s), api.ErrRange, "Most")
		want(t, check(t, api.RmState{Most: most}), api.ErrRange, "Most")
	}
	want(t, check(t, api.RmState{Most: 146, Nodes: empty(146).Nodes}), api.ErrRange, "Most")
	want(t, check(t, api.RmState{}), api.ErrRange, "no state")
	for _, most := range []int{1, 2, 4, 145} {
		s.Most = most
		want(t, check(t, s), api.ErrForm, "the number of nodes")
		want(t, check(t, api.RmState{Most: most}), api.ErrForm, "no nodes")
	}
	// What is wrong with nodes is not said if there are too few of them.
	want(t, check(t, api.RmState{Most: 3, Nodes: []api.RmNode{{Kids: make([]int, 16)}, {Level: 7}}}), api.ErrForm, "the number of nodes")
	want(t, check(t, api.RmState{Most: 1, Nodes: make([]api.RmNode, 1)}), api.ErrForm, "the root without kids")
}

// sample is a state with two middle nodes and three leaves, with numbers between them that no node has.
func sample() api.RmState {
	p := &plain{most: 9}
	p.do(call{true, 0, 1, five()})
	p.do(call{true, 60, 75, api.RmDesc{Owner: 1, Huge: true}})
	p.do(call{false, 0, 1, five()})
	p.do(call{false, 64, 72, five()})
	p.do(call{true, 127, 128, five()})
	return p.state()
}

// P7.2 and P7.9

// A state of which a level, or a kid, is another one, is no state of a map.
func TestP7_9OtherState(t *testing.T) {
	for _, s := range []api.RmState{sample(), mixed()[4].state(), empty(1), empty(4)} {
		for i, n := range s.Nodes {
			for _, level := range []int{math.MinInt, -2, -1, 0, 1, 2, 3, math.MaxInt - 1, math.MaxInt} {
				x := cloneState(s)
				x.Nodes[i].Level = level
				if e := check(t, x); (e == api.OK) != (level == n.Level) {
					t.Errorf("the level %d of the node %d of %v: %d", level, i, s, e)
				}
			}
			for k, kid := range n.Kids {
				for _, other := range append(odd(), 0, 1, 2, 3, 4, 5, 6, 7, 8, 9, 10) {
					x := cloneState(s)
					x.Nodes[i].Kids[k] = other
					if e := check(t, x); (e == api.OK) != (other == kid) {
						t.Errorf("the kid %d of the node %d of %v is %d: %d", k, i, s, other, e)
					}
				}
			}
		}
	}
}

// P7.2

// Words may be those of any descriptions, but no others, and not all of them 0.
func TestP7_2Words(t *testing.T) {
	s := sample()
	for i, n := range s.Nodes {
		for k := range n.Words {
			for _, word := range []uint64{0, 1, 2, 3, 8190, packed(five()), 401418, 1<<57 - 1, hugeBit, hugeBit + 1, 1<<58 + 1, packed(api.RmDesc{Stamp: stamps}), packed(api.RmDesc{Stamp: stamps}) + 1<<17, math.MaxUint64} {
				x := cloneState(s)
				x.Nodes[i].Words[k] = word
				check(t, x)
			}
		}
		if len(n.Words) > 0 {
			x := cloneState(s)
			clear(x.Nodes[i].Words)
			want(t, check(t, x), api.ErrForm, "a leaf without descriptions")
		}
		if len(n.Kids) > 0 {
			x := cloneState(s)
			clear(x.Nodes[i].Kids)
			want(t, check(t, x), api.ErrForm, "a node without kids")
		}
	}
}

// As many kids and words as a node of its level has are needed.
func TestP7_2Lengths(t *testing.T) {
	s := sample()
	for i, n := range s.Nodes {
		for _, length := range []int{0, 1, 7, 8, 9, 15, 16, 17, 1000} {
			x := cloneState(s)
			x.Nodes[i].Kids = append(x.Nodes[i].Kids, make([]int, 1000)...)[:length]
			if e := check(t, x); (e == api.OK) != (length == len(n.Kids)) {
				t.Errorf("%d kids of the node %d: %d", length, i, e)
			}
			x = cloneState(s)
			x.Nodes[i].Words = append(x.Nodes[i].Words, make([]uint64, 1000)...)[:length]
			if e := check(t, x); (e == api.OK) != (length == len(n.Words)) {
				t.Errorf("%d words of the node %d: %d", length, i, e)
			}
		}
	}
}

// The least number of a wrong node is returned, which is not always that of the node that was changed.
func TestP7_2Least(t *testing.T) {
	middle := func(kids ...int) api.RmNode {
		return api.RmNode{Level: 1, Kids: append(kids, make([]int, 8-len(kids))...)}
	}
	leaf := func() api.RmNode { return api.RmNode{Level: 2, Words: []uint64{0, 0, 1, 0, 0, 0, 0, 0}} }
	root := func(kids ...int) api.RmNode {
		return api.RmNode{Kids: append(kids, make([]int, 16-len(kids))...)}
	}
	none := api.RmNode{Level: -1}
	for i, c := range []struct {
		nodes []api.RmNode
		node  int
		e     api.Errno
	}{
		{[]api.RmNode{root(1), middle(2), leaf()}, 0, api.OK},
		{[]api.RmNode{root(2), leaf(), middle(1)}, 0, api.OK},
		{[]api.RmNode{root(0, 3), none, leaf(), middle(0, 2)}, 0, api.OK},
		{[]api.RmNode{root(1, 1), middle(2), leaf()}, 1, api.ErrForm},            // a middle node that is twice a kid
		{[]api.RmNode{root(1), middle(2, 2), leaf()}, 2, api.ErrForm},            // a leaf that is twice a kid
		{[]api.RmNode{root(1, 3), middle(2), leaf(), middle(2)}, 2, api.ErrForm}, // of two nodes
		{[]api.RmNode{root(1), middle(2), leaf(), leaf()}, 3, api.ErrForm},       // a leaf that is no kid
		{[]api.RmNode{root(), middle(2), leaf()}, 1, api.ErrForm},                // a middle node that is no kid
		{[]api.RmNode{root(2), middle(2), leaf()}, 0, api.ErrForm},               // a leaf as a kid of the root
		{[]api.RmNode{root(1), middle(1), leaf()}, 1, api.ErrForm},               // a middle node as its own kid
		{[]api.RmNode{root(1), middle(2), none}, 1, api.ErrForm},                 // a kid that is not there
		{[]api.RmNode{root(3), middle(2), leaf()}, 0, api.ErrForm},
		{[]api.RmNode{root(-1), middle(2), leaf()}, 0, api.ErrForm},
		{[]api.RmNode{root(1), middle(), leaf()}, 1, api.ErrForm},
		{[]api.RmNode{root(1), middle(2), leaf(), root()}, 3, api.ErrForm},  // a second root
		{[]api.RmNode{root(1), middle(2), leaf(), root(1)}, 1, api.ErrForm}, // whose kids count
		{[]api.RmNode{root(), middle(2), leaf(), root(1)}, 3, api.ErrForm},  // also if it is the only one
		{[]api.RmNode{none, middle(2), leaf()}, 0, api.ErrForm},
		{[]api.RmNode{middle(2), none, leaf()}, 0, api.ErrForm},
		{[]api.RmNode{leaf()}, 0, api.ErrForm},
		{[]api.RmNode{root(2), leaf(), {Level: 1, Kids: []int{1, 0, 0, 0, 0, 0, 0, 0, 1}}}, 1, api.ErrForm},
		{[]api.RmNode{root(2), leaf(), {Level: 1, Kids: []int{0, 0, 0, 0, 0, 0, 0, 0, 1}}}, 2, api.ErrForm},
		{[]api.RmNode{root(1), {Level: 1, Kids: middle(2).Kids, Words: leaf().Words}, leaf()}, 1, api.ErrForm},
		{[]api.RmNode{root(1), middle(2), {Level: 2, Kids: middle(1).Kids, Words: leaf().Words}}, 2, api.ErrForm},
		{[]api.RmNode{root(1), middle(2), {Level: 2, Words: make([]uint64, 8)}}, 2, api.ErrForm},
		{[]api.RmNode{root(1), middle(2), {Level: 2, Words: []uint64{1, 2, 1, 1, 1, 1, 1, 1}}}, 2, api.ErrForm},
	} {
		s := api.RmState{Most: len(c.nodes), Nodes: c.nodes}
		if n, e := radixmap.Check(s); n != c.node || e != c.e {
			t.Errorf("%d: Check: %d, %d, not %d, %d", i, n, e, c.node, c.e)
		}
		check(t, s)
	}
}

// spoil changes something of a state.
func spoil(s api.RmState, r *rand.Rand) {
	i := r.IntN(len(s.Nodes))
	n := &s.Nodes[i]
	switch k := r.IntN(8); r.IntN(6) {
	case 0:
		n.Level = r.IntN(5) - 2
	case 1:
		if len(n.Kids) > k {
			n.Kids[k] = r.IntN(len(s.Nodes)+2) - 1
		}
	case 2:
		if len(n.Words) > k {
			n.Words[k] = uint64(r.IntN(4))
		}
	case 3: // the same nodes, some of them with other numbers
		j := r.IntN(len(s.Nodes))
		if i > 0 && j > 0 {
			s.Nodes[i], s.Nodes[j] = s.Nodes[j], s.Nodes[i]
			rename(s, i, j)
		}
	case 4:
		j := r.IntN(len(s.Nodes))
		s.Nodes[i], s.Nodes[j] = s.Nodes[j], s.Nodes[i]
	case 5:
		j := r.IntN(len(s.Nodes))
		if a, b := n.Kids, s.Nodes[j].Kids; len(a) > k && len(b) > k {
			a[k], b[k] = b[k], a[k]
		}
	}
}

// rename exchanges two numbers, wherever they are kids.
func rename(s api.RmState, i, j int) {
	for _, n := range s.Nodes {
		for k, kid := range n.Kids {
			switch kid {
			case i:
				n.Kids[k] = j
			case j:
				n.Kids[k] = i
			}
		}
	}
}

func TestP7_2Spoilt(t *testing.T) {
	r := source()
	seen := map[api.Errno]int{}
	for _, p := range mixed() {
		if p.most > 60 {
			continue
		}
		for range 1500 {
			s := cloneState(p.state())
			for range 1 + r.IntN(3) {
				spoil(s, r)
			}
			seen[check(t, s)]++
		}
	}
	if seen[api.OK] == 0 || seen[api.ErrForm] == 0 {
		t.Errorf("the errors are %v", seen)
	}
}

// P7.6

func TestP7_6Save(t *testing.T) {
	r := source()
	for _, p := range mixed() {
		m := load(t, p.state())
		is(t, m, p)
		for range 100 {
			both(t, m, p, random(r))
			is(t, m, p)
			if !same(m.Save(), m.Save()) {
				t.Fatalf("Save changes the state")
			}
		}
	}
}

// P7.9

// A map that is saved and loaded goes on as before.
func TestP7_9SaveLoad(t *testing.T) {
	r := source()
	for _, p := range mixed() {
		m := load(t, p.state())
		for range 200 {
			c := random(r)
			o := load(t, m.Save())
			if a, b := do(m, c), do(o, c); a != b || !same(m.Save(), o.Save()) || m.Nodes() != o.Nodes() || !slices.Equal(m.Runs(), o.Runs()) {
				t.Fatalf("%v: %d, and %d after saving and loading: %v, %v", c, a, b, m.Save(), o.Save())
			}
		}
	}
}

// P7.10

// A state is neither kept nor given away.
func TestP7_10States(t *testing.T) {
	s := sample()
	before := cloneState(s)
	m := load(t, s)
	spoiled := func(s api.RmState) {
		for i := range s.Nodes {
			clear(s.Nodes[i].Kids)
			clear(s.Nodes[i].Words)
			s.Nodes[i].Level = 9
		}
	}
	spoiled(s)
	if !same(m.Save(), before) {
		t.Fatalf("Load keeps its argument: %v", m.Save())
	}
	x, y := m.Save(), m.Save()
	spoiled(x)
	if !same(y, before) || !same(m.Save(), before) {
		t.Fatalf("Save gives memory of the map, or of another result, away: %v, %v", y, m.Save())
	}
	want(t, m.Clear(0, 1024), api.OK, "Clear")
	if !same(y, before) {
		t.Fatalf("Clear changes what Save returned: %v", y)
	}
	// No two lists of a result share memory, also behind their ends.
	z := load(t, before).Save()
	for i := range z.Nodes {
		z.Nodes[i].Kids = append(z.Nodes[i].Kids, -7)
		z.Nodes[i].Words = append(z.Nodes[i].Words, 7)
	}
	for i, n := range before.Nodes {
		if l := len(n.Kids); !slices.Equal(z.Nodes[i].Kids[:l], n.Kids) || !slices.Equal(z.Nodes[i].Words[:len(n.Words)], n.Words) {
			t.Errorf("the node %d became %v", i, z.Nodes[i])
		}
	}
}
