package radixmap_test

import (
	"math"
	"slices"
	"testing"

	"polder/api"
)

// P7.4

func TestP7_4Get(t *testing.T) {
	for _, p := range mixed() {
		m := load(t, p.state())
		for page := range all {
			e := api.OK
			if !p.has[page] {
				e = api.ErrNone
			}
			if d, got := m.Get(page); d != p.desc[page] || got != e {
				t.Fatalf("Get(%d): %v, %d, not %v, %d", page, d, got, p.desc[page], e)
			}
		}
		for _, page := range append(odd(), 1024) {
			if d, e := m.Get(page); d != (api.RmDesc{}) || e != api.ErrRange {
				t.Errorf("Get(%d): %v, %d, not ErrRange", page, d, e)
			}
		}
		is(t, m, p)
	}
}

// Each page has a description of its own.
func TestP7_4GetEach(t *testing.T) {
	m := start(t, nodes)
	for page := range all {
		want(t, m.Set(page, page+1, api.RmDesc{Owner: page, State: page % 16, Stamp: int64(page) * 976562499, Huge: page%2 == 1}), api.OK, "Set")
	}
	for page := range all {
		if d, e := m.Get(page); d != (api.RmDesc{Owner: page, State: page % 16, Stamp: int64(page) * 976562499, Huge: page%2 == 1}) || e != api.OK {
			t.Errorf("Get(%d): %v, %d", page, d, e)
		}
	}
}

func TestP7_4Nodes(t *testing.T) {
	m := start(t, nodes)
	for i, c := range []struct {
		set         bool
		from, to, n int
	}{
		{true, 0, 0, 1}, {true, 0, 1, 3}, {true, 7, 8, 3}, {true, 8, 9, 4}, {true, 63, 64, 5}, {true, 64, 65, 7}, {true, 1023, 1024, 9},
		{false, 0, 1, 9}, {false, 7, 8, 8}, {false, 8, 64, 5}, {false, 0, 64, 5}, {true, 0, 1024, 145}, {false, 1, 1023, 5}, {false, 0, 1, 3}, {false, 1023, 1024, 1},
	} {
		want(t, do(m, call{c.set, c.from, c.to, five()}), api.OK, "Set or Clear")
		if m.Nodes() != c.n {
			t.Errorf("%d: %d nodes, not %d", i, m.Nodes(), c.n)
		}
	}
}

// P7.5

// runs returns the runs of pages that have the same description, by looking at each page and the one before it.
func (m *plain) runs() []api.RmRun {
	var l []api.RmRun
	for page, has := range m.has {
		if !has {
			continue
		}
		if page > 0 && m.has[page-1] && m.desc[page-1] == m.desc[page] {
			l[len(l)-1].To = page + 1
		} else {
			l = append(l, api.RmRun{From: page, To: page + 1, Desc: m.desc[page]})
		}
	}
	return l
}

func TestP7_5Runs(t *testing.T) {
	for _, p := range mixed() {
		m := load(t, p.state())
		if l := m.Runs(); !slices.Equal(l, p.runs()) {
			t.Errorf("Runs: %v, not %v", l, p.runs())
		}
		is(t, m, p)
	}
}

// Runs pass the ends of leaves and middle nodes, and end where a single number is another one, or there is none.
func TestP7_5RunsEnd(t *testing.T) {
	d := api.RmDesc{Owner: 5, State: 1, Stamp: 3}
	others := []api.RmDesc{{Owner: 6, State: 1, Stamp: 3}, {Owner: 5, State: 2, Stamp: 3}, {Owner: 5, State: 1, Stamp: 4}, {Owner: 5, State: 1, Stamp: 3, Huge: true}}
	for _, at := range []int{1, 7, 8, 9, 63, 64, 65, 500, 1022} {
		for _, x := range others {
			m := start(t, nodes)
			want(t, m.Set(0, 1024, d), api.OK, "Set")
			if l := m.Runs(); !slices.Equal(l, []api.RmRun{{From: 0, To: 1024, Desc: d}}) {
				t.Fatalf("Runs: %v", l)
			}
			want(t, m.Set(at, at+1, x), api.OK, "Set")
			if l := m.Runs(); !slices.Equal(l, []api.RmRun{{From: 0, To: at, Desc: d}, {From: at, To: at + 1, Desc: x}, {From: at + 1, To: 1024, Desc: d}}) {
				t.Errorf("Runs with %v at %d: %v", x, at, l)
			}
			want(t, m.Clear(at, at+1), api.OK, "Clear")
			if l := m.Runs(); !slices.Equal(l, []api.RmRun{{From: 0, To: at, Desc: d}, {From: at + 1, To: 1024, Desc: d}}) {
				t.Errorf("Runs without %d: %v", at, l)
			}
		}
	}
}

func TestP7_5Owned(t *testing.T) {
	for _, p := range mixed() {
		m := load(t, p.state())
		for _, owner := range []int{0, 1, 2, 5, 6, 63, 1023, 4094, 4095} {
			var pages []int
			for _, x := range p.pairs(0) {
				if x.d.Owner == owner {
					pages = append(pages, x.page)
				}
			}
			if l, e := m.Owned(owner); !slices.Equal(l, pages) || e != api.OK {
				t.Errorf("Owned(%d): %v, %d, not %v", owner, l, e, pages)
			}
		}
		for _, owner := range []int{math.MinInt, -4096, -1, 4096, 8192, math.MaxInt} {
			if l, e := m.Owned(owner); len(l) != 0 || e != api.ErrRange {
				t.Errorf("Owned(%d): %v, %d, not ErrRange", owner, l, e)
			}
		}
		is(t, m, p)
	}
}

func TestP7_5Walk(t *testing.T) {
	for _, p := range mixed() {
		m := load(t, p.state())
		for _, from := range edges() {
			if l := walked(m, from); !slices.Equal(l, p.pairs(from)) {
				t.Errorf("Walk(%d): %v, not %v", from, l, p.pairs(from))
			}
		}
		is(t, m, p)
	}
}

// A loop may be left at each page, and the sequence may be gone through again, also inside of itself.
func TestP7_5WalkLeft(t *testing.T) {
	for _, p := range mixed() {
		m := load(t, p.state())
		pages, seq := p.pairs(3), m.Walk(3)
		for n := 1; n <= len(pages); n += 1 + n/3 {
			var l []pair
			for page, d := range seq {
				l = append(l, pair{page, d})
				if len(l) == n {
					break
				}
			}
			if !slices.Equal(l, pages[:n]) {
				t.Fatalf("Walk(3), left after %d: %v, not %v", n, l, pages[:n])
			}
		}
		first := 0
		for range seq {
			inner := 0
			for range seq {
				inner++
			}
			if first++; inner != len(pages) {
				t.Fatalf("a walk inside of a walk yields %d pages, not %d", inner, len(pages))
			}
			if first > 5 {
				break
			}
		}
	}
}

// What the caller changes at one of the pages counts for the pages that come after it.
func TestP7_5WalkChanges(t *testing.T) {
	other := api.RmDesc{Owner: 77, State: 7, Stamp: 777, Huge: true}
	base := &plain{most: 30}
	for _, page := range []int{3, 4, 9, 20, 63, 64, 130, 500, 1023} {
		base.do(call{true, page, page + 1, five()})
	}
	for at := range base.pairs(0) {
		for _, from := range []int{0, 3, 4, 5, 9, 10, 20, 63, 64, 65, 128, 131, 500, 600, 1023} {
			for _, to := range []int{5, 10, 64, 66, 132, 501, 1024} {
				for _, set := range []bool{false, true} {
					if from <= to {
						changed(t, base, at, call{set, from, to, other})
					}
				}
			}
		}
	}
}

// changed walks, and does a call at the page that is yielded at the place at.
func changed(t *testing.T, base *plain, at int, c call) {
	t.Helper()
	m, p := load(t, base.state()), base.clone()
	var got, want []pair
	for page, d := range m.Walk(0) {
		got = append(got, pair{page, d})
		if len(got) == at+1 {
			do(m, c)
		}
	}
	want = p.pairs(0)[:at+1]
	p.do(c)
	want = append(want, p.pairs(want[at].page+1)...)
	if !slices.Equal(got, want) {
		t.Fatalf("Walk with %v at %d: %v, not %v", c, at, got, want)
	}
	is(t, m, p)
}

// Each page that is yielded is cleared, is given another description, or gives one to the page behind it.
func TestP7_5WalkChangesEach(t *testing.T) {
	for _, p := range mixed() {
		m := load(t, p.state())
		l := []pair{}
		for page, d := range m.Walk(0) {
			l = append(l, pair{page, d})
			m.Set(page, page+1, api.RmDesc{Owner: 9})
			m.Clear(page, page+1)
		}
		if !slices.Equal(l, p.pairs(0)) || !same(m.Save(), empty(p.most)) {
			t.Errorf("Walk: %v, not %v; then the map is %v", l, p.pairs(0), m.Save())
		}
	}
	m := start(t, nodes)
	want(t, m.Set(5, 6, five()), api.OK, "Set")
	next := 5
	for page, d := range m.Walk(2) {
		if page != next || d.Stamp != int64(page)-2 {
			t.Fatalf("Walk yields %d, %v, not %d", page, d, next)
		}
		m.Set(page+1, page+2, api.RmDesc{Owner: 5, State: 1, Stamp: int64(page) - 1}) // not behind the last page
		m.Set(page-1, page, five())
		next++
	}
	if next != 1024 {
		t.Errorf("Walk ends before %d", next)
	}
}

// A walk looks at the map when it runs, not when it was asked for.
func TestP7_5WalkLater(t *testing.T) {
	m := start(t, nodes)
	seq := m.Walk(10)
	for page := range seq {
		t.Errorf("a map without descriptions yields %d", page)
	}
	want(t, m.Set(9, 12, five()), api.OK, "Set")
	var l []int
	for page := range seq {
		l = append(l, page)
	}
	if !slices.Equal(l, []int{10, 11}) {
		t.Errorf("Walk: %v", l)
	}
}

// P7.10

func TestP7_10NewMemory(t *testing.T) {
	m := start(t, nodes)
	want(t, m.Set(0, 20, five()), api.OK, "Set")
	want(t, m.Set(30, 40, five()), api.OK, "Set")
	runs, again := m.Runs(), m.Runs()
	clear(runs)
	if len(again) != 2 || again[0].To != 20 || again[1].To != 40 || !slices.Equal(again, m.Runs()) {
		t.Errorf("two results of Runs share memory: %v, %v", again, m.Runs())
	}
	owned, _ := m.Owned(5)
	other, _ := m.Owned(5)
	clear(owned)
	if other[1] != 1 || len(other) != 30 {
		t.Errorf("two results of Owned share memory: %v", other)
	}
	third, _ := m.Owned(5)
	if !slices.Equal(third, other) {
		t.Errorf("Owned shares memory with the map: %v", third)
	}
}

// Maps are independent of each other.
func TestP7_10Independent(t *testing.T) {
	a, b := start(t, nodes), start(t, nodes)
	want(t, a.Set(0, 70, five()), api.OK, "Set")
	if !same(b.Save(), empty(nodes)) {
		t.Fatalf("Set changes another map: %v", b.Save())
	}
	c := load(t, a.Save())
	want(t, c.Clear(0, 70), api.OK, "Clear")
	if l, e := a.Owned(5); len(l) != 70 || e != api.OK || c.Nodes() != 1 {
		t.Errorf("Clear changes another map: %v", a.Save())
	}
}
