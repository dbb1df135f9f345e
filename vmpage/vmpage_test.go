package vmpage_test

import (
	"math"
	"slices"
	"testing"

	"polder/api"
	"polder/refusals"
	"polder/vmpage"
)

func TestExamples(t *testing.T) {
	s := start(t)
	want(t, s.Reserve(0, 4), api.OK, "Reserve(0, 4)")
	want(t, s.Commit(1, 2), api.OK, "Commit(1, 2)")
	want(t, s.Commit(0, 2), api.ErrDown, "Commit(0, 2)")
	want(t, s.Write(64, 7), api.OK, "Write(64, 7)")
	for _, x := range []struct {
		at int64
		b  byte
		e  api.Errno
	}{{64, 7, api.OK}, {65, 0, api.OK}, {63, 0, vmpage.ErrFault}} {
		if b, e := s.Read(x.at); b != x.b || e != x.e {
			t.Errorf("Read(%d): %d, %d", x.at, b, e)
		}
	}
	want(t, s.Protect(0, 1, true), api.OK, "Protect(0, 1, true)")
	want(t, s.Release(0, 4), api.ErrDown, "Release(0, 4)")
	want(t, s.Decommit(1, 2), api.OK, "Decommit(1, 2)")
	want(t, s.Commit(1, 1), api.OK, "Commit(1, 1)")
	if b, e := s.Read(64); b != 0 || e != api.OK {
		t.Errorf("Read(64): %d, %d", b, e)
	}
	if n, e := s.Counts(); n != (api.VmCounts{Free: 1020, Reserved: 2, Committed: 1, Guards: 1}) || e != api.OK {
		t.Errorf("Counts: %v, %d", n, e)
	}
}

// The errors have the numbers that the chapter gives them.
func TestErrors(t *testing.T) {
	if vmpage.ErrRefused != 60 || vmpage.ErrFault != 61 {
		t.Errorf("%d, %d", vmpage.ErrRefused, vmpage.ErrFault)
	}
}

// callAll calls every method, and returns its errors by its name.
func callAll(s *vmpage.System) map[string]api.Errno {
	l := map[string]api.Errno{"Plan": s.Plan(plan()), "bad Plan": s.Plan(plan(api.RfRule{})), "Write": s.Write(0, 1), "bad Write": s.Write(-1, 1)}
	_, l["Read"] = s.Read(0)
	_, l["bad Read"] = s.Read(-1)
	_, _, l["Kind"] = s.Kind(0)
	_, _, l["bad Kind"] = s.Kind(-1)
	_, l["Counts"] = s.Counts()
	for _, c := range slices.Concat(spanCalls(0, 16), groupCalls(0)) {
		l[c.name] = do(s, c)
	}
	for _, c := range slices.Concat(spanCalls(-1, 0), groupCalls(-1)) {
		l["bad "+c.name] = do(s, c)
	}
	return l
}

func TestP6NotMade(t *testing.T) {
	for name, s := range map[string]*vmpage.System{"nil": nil, "zero": new(vmpage.System), "copy": copied(start(t))} {
		for call, e := range callAll(s) {
			want(t, e, api.ErrNil, name+": "+call)
		}
		if x := s.Save(); !same(x, api.VmState{}) {
			t.Errorf("%s: Save: %v", name, x)
		}
		if b, _ := s.Read(0); b != 0 {
			t.Errorf("%s: Read: %d", name, b)
		}
		if kind, huge, _ := s.Kind(0); kind != 0 || huge {
			t.Errorf("%s: Kind: %d, %v", name, kind, huge)
		}
		if n, _ := s.Counts(); n != (api.VmCounts{}) {
			t.Errorf("%s: Counts: %v", name, n)
		}
	}
}

// copied returns a pointer to a copy of a system that has a committed page.
func copied(s *vmpage.System) *vmpage.System {
	s.Reserve(0, 16)
	s.Commit(0, 16)
	c := *s
	return &c
}

// P6.1

// badPlans are plans that are not valid.
func badPlans() []api.RfPlan {
	good := rule(2, 1, 1, 0)
	return []api.RfPlan{
		plan(slices.Repeat([]api.RfRule{good}, 51)...), plan(make([]api.RfRule, 51)...),
		plan(rule(-1, 1, 0, 1)), plan(rule(7, 1, 0, 1)), plan(rule(math.MinInt, 0, -1, -1)), plan(good, rule(7, 0, 0, 0), api.RfRule{}),
		plan(api.RfRule{}), plan(rule(0, 10001, 0, 1)), plan(rule(0, 1, 13, 0)), plan(rule(0, 1, -1, 0)), plan(rule(0, 1, 1, 1001)), plan(rule(0, 1, 1, -1)), plan(good, rule(6, math.MaxInt, math.MaxInt, math.MaxInt)),
		plan(rule(0, 1, 0, 0)), plan(rule(0, 1, 0, 2)), plan(good, good, rule(6, 1, 0, 1000), rule(9, 0, 0, 0)),
	}
}

func TestP6_1NewErrors(t *testing.T) {
	for _, p := range badPlans() {
		_, e := refusals.Start(p)
		if s, got := vmpage.New(p); s != nil || got != e || e == api.OK {
			t.Errorf("New(%v): %v, %d, not %d", p, s != nil, got, e)
		}
	}
}

func TestP6_1New(t *testing.T) {
	for _, p := range []api.RfPlan{{}, plan(), plan(rule(0, 1, 0, 1)), plan(slices.Repeat([]api.RfRule{rule(6, 10000, 12, 1000)}, 50)...)} {
		s := start(t, p.Rules...)
		is(t, s, &plain{rules: p.Rules})
		for page := range all {
			if kind, huge, e := s.Kind(page); kind != free || huge || e != api.OK {
				t.Fatalf("Kind(%d): %d, %v, %d", page, kind, huge, e)
			}
		}
	}
}

func TestP6_1Plan(t *testing.T) {
	r := source()
	old := []api.RfRule{rule(2, 1, 2, 0), rule(0, 1, 0, 1), rule(6, 1, 1, 0)}
	for _, m := range mixed() {
		m.rules = old
		for kind := range m.calls {
			m.calls[kind] = r.IntN(5)
			for n := 1; n <= m.calls[kind]; n++ {
				if m.refused(kind, n) {
					m.hits[kind]++
				}
			}
		}
		s := load(t, m)
		for _, p := range badPlans() {
			_, e := refusals.Start(p)
			want(t, s.Plan(p), e, "a plan that is not valid")
		}
		is(t, s, m)
		for _, rules := range [][]api.RfRule{old, {rule(3, 2, 0, 1), rule(1, 1, 1, 1)}, nil} {
			want(t, s.Plan(plan(rules...)), api.OK, "Plan")
			m.rules, m.calls, m.hits = rules, [kinds]int{}, [kinds]int{}
			is(t, s, m)
		}
	}
}

// A plan is counted from its first call on.
func TestP6_1PlanCounts(t *testing.T) {
	s := start(t)
	third := plan(rule(0, 3, 0, 1))
	for range 3 {
		want(t, s.Plan(third), api.OK, "Plan")
		want(t, s.Reserve(0, 1), api.OK, "the first one")
		want(t, s.Reserve(1, 1), api.OK, "the second one")
		want(t, s.Reserve(2, 1), vmpage.ErrRefused, "the third one")
		want(t, s.Release(0, 2), api.OK, "Release")
	}
}

// A plan is neither kept nor changed (R3).
func TestP6_1PlanIsNotKept(t *testing.T) {
	right := []api.RfRule{rule(0, 1, 0, 1), rule(0, 2, 0, 1), rule(0, 3, 0, 1)}
	for _, name := range []string{"New", "Plan"} {
		whole := slices.Clone(right)
		given := whole[:2] // what is behind its end is not changed either
		var s *vmpage.System
		if name == "New" {
			s = start(t, given...)
		} else {
			s = start(t)
			want(t, s.Plan(plan(given...)), api.OK, "Plan")
		}
		want(t, s.Reserve(0, 1), vmpage.ErrRefused, "the first one")
		if !slices.Equal(whole, right) {
			t.Fatalf("%s: the rules became %v", name, whole)
		}
		clear(whole)
		want(t, s.Reserve(0, 1), vmpage.ErrRefused, "the second one")
		want(t, s.Reserve(0, 1), api.OK, "the third one")
		if x := s.Save().Refusals; !sameRefusals(x, api.RfState{Plan: plan(right[:2]...), Calls: [kinds]int{3}, Hits: [kinds]int{2}}) {
			t.Errorf("%s: the refusals are %v", name, x)
		}
	}
}
