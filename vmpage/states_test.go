package vmpage_test

import (
	"math"
	"slices"
	"testing"

	"polder/api"
	"polder/refusals"
	"polder/vmpage"
)

// P6.2

func run(page, pages, kind int) api.VmRun {
	return api.VmRun{Page: page, Pages: pages, Kind: kind}
}

// data returns the data of a page whose byte at is b.
func data(page, at int, b byte) api.VmData {
	d := api.VmData{Page: page}
	d.Bytes[at] = b
	return d
}

func TestP6_2Round(t *testing.T) {
	for _, m := range mixed() {
		x := m.state()
		s := loadState(t, x)
		if y := s.Save(); !same(y, x) {
			t.Fatalf("Save: %v, not %v", y, x)
		}
		if y := loadState(t, s.Save()).Save(); !same(y, x) {
			t.Fatalf("Save of Load: %v, not %v", y, x)
		}
	}
}

// States that systems have, and that only their forms allow or forbid by little.
func TestP6_2Valid(t *testing.T) {
	full := api.VmState{Runs: []api.VmRun{run(0, 1024, committed)}}
	for page := range all {
		if page%group == 0 {
			full.Huge = append(full.Huge, page)
		}
		full.Data = append(full.Data, data(page, page%bytes, 1))
	}
	var singles api.VmState
	for page := range all {
		singles.Runs = append(singles.Runs, run(page, 1, 1+page%3))
	}
	for i, x := range []api.VmState{
		{}, {Runs: []api.VmRun{}, Huge: []int{}, Data: []api.VmData{}, Refusals: api.RfState{Plan: api.RfPlan{Rules: []api.RfRule{}}}},
		full, singles,
		{Runs: []api.VmRun{run(0, 1, guard), run(1, 1, reserved), run(2, 1, guard), run(4, 1, guard), run(1023, 1, guard)}},
		{Runs: []api.VmRun{run(0, 8, committed), run(9, 3, committed), run(12, 2, reserved)}, Data: []api.VmData{data(7, 63, 255), data(9, 0, 1), data(11, 1, 1)}},
		{Runs: []api.VmRun{run(15, 18, committed)}, Huge: []int{16}, Data: []api.VmData{data(15, 1, 1), data(16, 2, 2), data(31, 3, 3), data(32, 4, 4)}},
		{Runs: []api.VmRun{run(16, 16, committed), run(1008, 16, committed)}, Huge: []int{16, 1008}},
		{Refusals: api.RfState{Plan: plan(rule(0, 1, 1, 0)), Calls: [kinds]int{most, 3}, Hits: [kinds]int{most}}},
	} {
		if y := loadState(t, x).Save(); !same(y, x) {
			t.Errorf("%d: Save: %v, not %v", i, y, x)
		}
	}
}

// badStates are states that are those of no system, but with right refusals.
func badStates() []api.VmState {
	var l []api.VmState
	runs := func(r ...api.VmRun) { l = append(l, api.VmState{Runs: r}) }
	for _, n := range []int{math.MinInt, math.MinInt + 1, -1025, -1, 1025, math.MaxInt - 1, math.MaxInt} {
		runs(run(n, 1, reserved))
		runs(run(n, 1024, reserved))
		runs(run(0, n, reserved))
		runs(run(1, n, reserved))
		runs(run(1023, n, reserved))
		runs(run(n, n, reserved))
		runs(run(n, math.MaxInt, committed))
		runs(run(math.MaxInt, n, committed))
		runs(run(2, 1, reserved), run(n, 1, committed))
		runs(run(2, 1, n))
		l = append(l, api.VmState{Runs: []api.VmRun{run(0, 1024, committed)}, Huge: []int{n}})
		l = append(l, api.VmState{Runs: []api.VmRun{run(0, 1024, committed)}, Data: []api.VmData{data(n, 1, 1)}})
	}
	runs(run(1024, 1, reserved))
	runs(run(1023, 2, reserved))
	runs(run(1, 1024, guard))
	runs(run(0, 0, reserved))
	runs(run(5, 0, reserved))
	runs(run(1024, 0, reserved))
	runs(api.VmRun{})
	runs(run(0, 1024, free))
	runs(run(3, 1, free))
	runs(run(3, 1, 4))
	runs(run(3, 1, reserved), run(5, 1, free))
	runs(run(3, 1, reserved), run(4, 1, reserved))
	runs(run(0, 512, guard), run(512, 512, guard))
	runs(run(3, 2, reserved), run(4, 1, guard))
	runs(run(3, 2, reserved), run(3, 1, guard))
	runs(run(3, 2, reserved), run(3, 2, reserved))
	runs(run(3, 2, reserved), run(4, 2, reserved))
	runs(run(3, 1, reserved), run(1, 1, guard))
	runs(run(3, 1, reserved), run(2, 1, guard))
	runs(run(3, 1, reserved), run(9, 1, reserved), run(6, 1, guard))
	runs(run(3, 1, reserved), run(9, 1, reserved), run(10, 1, reserved))
	runs(slices.Repeat([]api.VmRun{run(0, 1, reserved)}, 2000)...)
	return slices.Concat(l, badHuge(), badData())
}

func badHuge() []api.VmState {
	var l []api.VmState
	huge := func(first ...int) {
		l = append(l, api.VmState{Runs: []api.VmRun{run(0, 1024, committed)}, Huge: first})
	}
	for _, n := range []int{1, 8, 15, 17, 1007, 1009, 1024, -16, 1040} {
		huge(n)
		huge(32, n)
	}
	huge(0, 0)
	huge(16, 16)
	huge(1008, 1008)
	huge(32, 16)
	huge(0, 32, 16)
	huge(slices.Repeat([]int{16}, 2000)...)
	for _, first := range []int{0, 16, 1008} {
		l = append(l, api.VmState{Huge: []int{first}})
		for _, kind := range []int{reserved, guard} {
			l = append(l, api.VmState{Runs: []api.VmRun{run(first, group, kind)}, Huge: []int{first}})
			l = append(l, api.VmState{Runs: []api.VmRun{run(first, 15, committed), run(first+15, 1, kind)}, Huge: []int{first}})
			l = append(l, api.VmState{Runs: []api.VmRun{run(first, 1, kind), run(first+1, 15, committed)}, Huge: []int{first}})
		}
		l = append(l, api.VmState{Runs: []api.VmRun{run(first, 15, committed)}, Huge: []int{first}})
		l = append(l, api.VmState{Runs: []api.VmRun{run(first+1, 15, committed)}, Huge: []int{first}})
		l = append(l, api.VmState{Runs: []api.VmRun{run(first, 7, committed), run(first+8, 8, committed)}, Huge: []int{first}})
	}
	return l
}

func badData() []api.VmState {
	var l []api.VmState
	in := func(runs []api.VmRun, d ...api.VmData) { l = append(l, api.VmState{Runs: runs, Data: d}) }
	for kind := range 4 {
		var runs []api.VmRun
		if kind != free {
			runs = append(runs, run(3, 4, kind))
		}
		if kind != committed {
			in(runs, data(3, 0, 1))
			in(runs, data(6, 63, 1))
		}
		in(runs, data(3, 0, 0))
		in(runs, data(2, 0, 1))
		in(runs, data(7, 0, 1))
	}
	runs := []api.VmRun{run(0, 1024, committed)}
	in(runs, data(1024, 0, 1))
	in(runs, data(3, 0, 1), data(3, 0, 1))
	in(runs, data(0, 0, 1), data(0, 1, 1))
	in(runs, data(3, 0, 1), data(2, 0, 1))
	in(runs, data(3, 0, 1), data(5, 0, 1), data(4, 0, 1))
	in(runs, data(3, 0, 1), data(4, 0, 0))
	in(runs, slices.Repeat([]api.VmData{data(9, 0, 1)}, 1200)...)
	return l
}

func TestP6_2Form(t *testing.T) {
	for i, x := range badStates() {
		if s, e := vmpage.Load(x); s != nil || e != api.ErrForm {
			t.Errorf("%d: Load(%v): %v, %d", i, x, s != nil, e)
		}
	}
}

// badRefusals are states of refusals that are not right.
func badRefusals() []api.RfState {
	var l []api.RfState
	for _, p := range badPlans() {
		l = append(l, api.RfState{Plan: p}, api.RfState{Plan: p, Calls: [kinds]int{-1}})
	}
	first := plan(rule(2, 1, 0, 1))
	for _, n := range []int{math.MinInt, -1, most + 1, math.MaxInt} {
		l = append(l, api.RfState{Calls: [kinds]int{6: n}}, api.RfState{Hits: [kinds]int{3: n}})
	}
	return append(l, api.RfState{Hits: [kinds]int{1: 1}}, api.RfState{Plan: first, Hits: [kinds]int{2: 1}}, api.RfState{Plan: first, Calls: [kinds]int{2: 1}}, api.RfState{Plan: first, Calls: [kinds]int{2: 2}, Hits: [kinds]int{2: 2}})
}

// What is wrong with the refusals comes first.
func TestP6_2Refusals(t *testing.T) {
	bad := badStates()
	for i, r := range badRefusals() {
		want := refusals.CheckState(r)
		for _, x := range []api.VmState{{}, {Runs: []api.VmRun{run(0, 32, committed)}, Huge: []int{16}, Data: []api.VmData{data(1, 1, 1)}}, bad[i], bad[len(bad)-1-i]} {
			x.Refusals = r
			if s, e := vmpage.Load(x); s != nil || e != want || e == api.OK {
				t.Errorf("Load(%v): %v, %d, not %d", x, s != nil, e, want)
			}
		}
	}
}

// A system and its state share no memory (R3).
func TestP6_2Fresh(t *testing.T) {
	m := &plain{rules: []api.RfRule{rule(2, 1, 0, 1), rule(2, 3, 0, 1)}}
	for p := range 4 * group {
		m.kind[p], m.huge[p] = committed, p/group == 1
		m.data[p*bytes] = byte(p)
	}
	m.kind[100], m.kind[102] = reserved, guard
	x := m.state()
	before := cloneState(x)
	a, b := loadState(t, x), loadState(t, x)
	if !same(x, before) {
		t.Fatalf("Load changed its argument: %v, not %v", x, before)
	}
	wipe(x)
	is(t, a, m)
	wipe(a.Save())
	is(t, a, m)

	saved := a.Save()
	want(t, a.Commit(100, 1), vmpage.ErrRefused, "the first one")
	want(t, a.Commit(100, 1), api.OK, "the second one")
	want(t, a.Write(64, 200), api.OK, "Write")
	want(t, a.Split(16), api.OK, "Split")
	want(t, a.Plan(plan()), api.OK, "Plan")
	is(t, b, m)
	if !same(saved, before) {
		t.Errorf("the state that was saved became %v", saved)
	}
}

// wipe makes all that the slices of a state hold zero, behind their ends too.
func wipe(x api.VmState) {
	clear(x.Runs[:cap(x.Runs)])
	clear(x.Huge[:cap(x.Huge)])
	clear(x.Data[:cap(x.Data)])
	clear(x.Refusals.Plan.Rules[:cap(x.Refusals.Plan.Rules)])
}

// What a state was saved from, and what is loaded of it, go on in the same way (T1).
func TestP6_2Same(t *testing.T) {
	r := source()
	for _, m := range mixed() {
		for kind := range kinds {
			m.rules = append(m.rules, rule(kind, 1+r.IntN(5), 1+r.IntN(4), r.IntN(3)*5))
		}
		a := load(t, m)
		for range 40 {
			b := loadState(t, a.Save())
			for range 10 {
				c := m.random(r)
				if e, f := do(a, c), both(t, b, m, c); e != f {
					t.Fatalf("%v: %d and %d", c, e, f)
				}
			}
			if x, y := a.Save(), b.Save(); !same(x, y) {
				t.Fatalf("%v and %v", x, y)
			}
		}
	}
}
