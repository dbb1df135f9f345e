package refusals_test

import (
	"math"
	"slices"
	"testing"

	"polder/api"
	"polder/refusals"
)

func example() api.RfPlan {
	return plan(rule(api.RfCommit, 3, 2, 0), rule(api.RfCommit, 4, 0, 1), rule(api.RfReserve, 1, 3, 2))
}

func TestExamples(t *testing.T) {
	p := example()
	for i, want := range []bool{false, false, true, true, true, false} {
		if got, e := refusals.Refused(p, api.RfCommit, i+1); got != want || e != api.OK {
			t.Errorf("Refused of the commit %d: %v, %d", i+1, got, e)
		}
	}
	if n, e := refusals.Hits(p, api.RfCommit, 6); n != 3 || e != api.OK {
		t.Errorf("Hits of commit, 6: %d, %d", n, e)
	}
	if n, e := refusals.Hits(p, api.RfReserve, 10); n != 2 || e != api.OK {
		t.Errorf("Hits of reserve, 10: %d, %d", n, e)
	}
	if n, e := refusals.After(p, api.RfCommit, 5); n != 7 || e != api.OK {
		t.Errorf("After of commit, 5: %d, %d", n, e)
	}
	if n, e := refusals.After(p, api.RfReserve, 4); n != 0 || e != api.ErrNone {
		t.Errorf("After of reserve, 4: %d, %d", n, e)
	}
	if s, e := refusals.Print(p); s != "commit 3 every 2\ncommit 4\nreserve 1 every 3 times 2\n" || e != api.OK {
		t.Errorf("Print: %q, %d", s, e)
	}
	if q, e := refusals.Reduce(plan(append(example().Rules, rule(api.RfCommit, 5, 4, 0))...)); !same(q, p) || e != api.OK {
		t.Errorf("Reduce: %v, %d", q, e)
	}
	if got, e := refusals.Same(plan(rule(2, 2, 2, 0)), plan(rule(2, 2, 4, 0), rule(2, 4, 4, 0))); !got || e != api.OK {
		t.Errorf("Same: %v, %d", got, e)
	}
	if n, e := refusals.Check(plan(rule(2, 1, 0, 0))); n != 0 || e != api.ErrForm {
		t.Errorf("Check with Every 0 and Times 0: %d, %d", n, e)
	}
	if n, e := refusals.Check(plan(rule(2, 0, 1, 0))); n != 0 || e != api.ErrRange {
		t.Errorf("Check with First 0: %d, %d", n, e)
	}
}

func TestExampleStates(t *testing.T) {
	s, e := refusals.Start(example())
	is(t, e)
	for i, want := range []bool{false, false, true, true, true} {
		next, got, e := refusals.Next(s, api.RfCommit)
		if got != want || e != api.OK {
			t.Errorf("Next, the commit %d: %v, %d", i+1, got, e)
		}
		s = next
	}
	s, _, e = refusals.Next(s, api.RfReserve)
	is(t, e)
	if q, e := refusals.Rest(s); !same(q, plan(rule(2, 2, 2, 0), rule(0, 3, 3, 1))) || e != api.OK {
		t.Errorf("Rest: %v, %d", q, e)
	}
}

// P5.1

func TestP5_1Check(t *testing.T) {
	for _, p := range append(plans(4), plan(), api.RfPlan{Rules: []api.RfRule{}}, late(0)) {
		if n, e := refusals.Check(p); n != 0 || e != api.OK {
			t.Errorf("Check(%v): %d, %d", p, n, e)
		}
	}
	for _, x := range badPlans() {
		if n, e := refusals.Check(x.p); n != x.rule || e != x.e {
			t.Errorf("Check(%v): %d, %d, want %d, %d", x.p, n, e, x.rule, x.e)
		}
	}
}

// Every rule with numbers at the ends of what is valid, behind one that is.
func TestP5_1Rules(t *testing.T) {
	in := func(n, least, most int) bool { return n >= least && n <= most }
	for _, kind := range append(ends(), 3, 4, 5) {
		for _, first := range ends() {
			for _, every := range ends() {
				for _, times := range ends() {
					want := api.OK
					switch {
					case !in(kind, 0, 6):
						want = api.ErrArg
					case !in(first, 1, 10000) || !in(every, 0, 12) || !in(times, 0, 1000):
						want = api.ErrRange
					case every == 0 && times != 1:
						want = api.ErrForm
					}
					at := 1
					if want == api.OK {
						at = 0
					}
					x := rule(kind, first, every, times)
					if n, e := refusals.Check(plan(rule(0, 1, 0, 1), x)); n != at || e != want {
						t.Fatalf("Check of %v: %d, %d, want %d, %d", x, n, e, at, want)
					}
				}
			}
		}
	}
}

// All other functions return the error of Check first, whatever else is wrong.
func TestP5_1Others(t *testing.T) {
	for _, x := range badPlans() {
		for _, kind := range []int{2, -1} {
			for _, n := range []int{3, -1} {
				if got, e := refusals.Refused(x.p, kind, n); got || e != x.e {
					t.Errorf("Refused(%v): %v, %d, want the error %d", x.p, got, e, x.e)
				}
				if got, e := refusals.Hits(x.p, kind, n); got != 0 || e != x.e {
					t.Errorf("Hits(%v): %d, %d, want the error %d", x.p, got, e, x.e)
				}
				if got, e := refusals.After(x.p, kind, n); got != 0 || e != x.e {
					t.Errorf("After(%v): %d, %d, want the error %d", x.p, got, e, x.e)
				}
				s := api.RfState{Plan: x.p}
				s.Calls[0], s.Hits[1] = n, n
				if got, refused, e := refusals.Next(s, kind); !sameState(got, api.RfState{}) || refused || e != x.e {
					t.Errorf("Next(%v): %v, %v, %d, want the error %d", s, got, refused, e, x.e)
				}
				if e := refusals.CheckState(s); e != x.e {
					t.Errorf("CheckState(%v): %d, want %d", s, e, x.e)
				}
				if got, e := refusals.Rest(s); len(got.Rules) != 0 || e != x.e {
					t.Errorf("Rest(%v): %v, %d, want the error %d", s, got, e, x.e)
				}
			}
		}
		if got, e := refusals.Reduce(x.p); len(got.Rules) != 0 || e != x.e {
			t.Errorf("Reduce(%v): %v, %d, want the error %d", x.p, got, e, x.e)
		}
		if got, e := refusals.Start(x.p); !sameState(got, api.RfState{}) || e != x.e {
			t.Errorf("Start(%v): %v, %d, want the error %d", x.p, got, e, x.e)
		}
		if got, e := refusals.Print(x.p); got != "" || e != x.e {
			t.Errorf("Print(%v): %q, %d, want the error %d", x.p, got, e, x.e)
		}
	}
}

// Same returns the error for a before that for b.
func TestP5_1Same(t *testing.T) {
	for _, x := range badPlans() {
		for _, good := range []api.RfPlan{plan(), example()} {
			if got, e := refusals.Same(good, x.p); got || e != x.e {
				t.Errorf("Same(.., %v): %v, %d, want the error %d", x.p, got, e, x.e)
			}
			if got, e := refusals.Same(x.p, good); got || e != x.e {
				t.Errorf("Same(%v, ..): %v, %d, want the error %d", x.p, got, e, x.e)
			}
		}
		for _, y := range badPlans() {
			if got, e := refusals.Same(x.p, y.p); got || e != x.e {
				t.Errorf("Same(%v, %v): %v, %d, want the error %d", x.p, y.p, got, e, x.e)
			}
		}
	}
}

// P5.2

// compare holds Refused, Hits and After of a plan against its table, for the calls from from to to. The table is so long that a call that is to come shows in it.
func compare(t *testing.T, p api.RfPlan, kind, from, to int, l []bool) {
	t.Helper()
	hits, next := count(l[:from]), from
	for n := from; n <= to; n++ {
		if l[n] {
			hits++
		}
		if got, e := refusals.Refused(p, kind, n); n > 0 && (got != l[n] || e != api.OK) {
			t.Fatalf("Refused(%v, %d, %d): %v, %d", p, kind, n, got, e)
		}
		if got, e := refusals.Hits(p, kind, n); got != hits || e != api.OK {
			t.Fatalf("Hits(%v, %d, %d): %d, %d, want %d", p, kind, n, got, e, hits)
		}
		for next = max(next, n+1); next < len(l) && !l[next]; next++ {
		}
		after, want := next, api.OK
		if next == len(l) {
			after, want = 0, api.ErrNone
		}
		if got, e := refusals.After(p, kind, n); got != after || e != want {
			t.Fatalf("After(%v, %d, %d): %d, %d, want %d, %d", p, kind, n, got, e, after, want)
		}
	}
}

func TestP5_2Small(t *testing.T) {
	for _, p := range smallPlans(append(smallRules(2, 3, 3, 2), rule(1, 2, 1, 0))) {
		compare(t, p, 2, 0, 24, table(p, 2, 40))
		compare(t, p, 1, 0, 5, table(p, 1, 40))
	}
}

func TestP5_2Large(t *testing.T) {
	r := source()
	all := plans(1)
	for i := range 40 {
		p := all[r.IntN(len(all))]
		if i == 0 {
			p = late(0)
		}
		kind := r.IntN(kinds)
		if len(p.Rules) > 0 {
			kind = p.Rules[0].Kind
		}
		l := table(p, kind, most)
		for _, from := range []int{0, 9998, lastEnd - 13, gap - 2, most - 14, r.IntN(most - 2)} {
			compare(t, p, kind, from, min(from+2, most), l)
		}
		compare(t, p, kind, most-1, most, l)
	}
}

// Every single rule with an end, about its last calls.
func TestP5_2Ends(t *testing.T) {
	for every := 1; every <= 12; every++ {
		for _, first := range []int{1, 2, 5000, 9999, 10000} {
			for _, times := range []int{0, 1, 2, 3, 999, 1000} {
				p := plan(rule(5, first, every, times))
				last := first + every*max(times-1, 0)
				compare(t, p, 5, max(0, last-every-1), last+every+1, table(p, 5, last+40))
			}
		}
	}
}

func TestP5_2Invalid(t *testing.T) {
	for _, p := range []api.RfPlan{plan(), example(), late(2)} {
		for _, kind := range append(ends(), 3, 4, 5) {
			l := table(p, kind, most)
			for _, n := range ends() {
				want := func(least int) api.Errno {
					switch {
					case kind < 0 || kind > 6:
						return api.ErrArg
					case n < least || n > most:
						return api.ErrRange
					}
					return api.OK
				}
				if got, e := refusals.Refused(p, kind, n); e != want(1) || e != api.OK && got {
					t.Errorf("Refused(%v, %d, %d): %v, %d, want %d", p, kind, n, got, e, want(1))
				}
				if got, e := refusals.Hits(p, kind, n); e != want(0) || e != api.OK && got != 0 {
					t.Errorf("Hits(%v, %d, %d): %d, %d, want %d", p, kind, n, got, e, want(0))
				}
				e2 := want(0)
				got, e := refusals.After(p, kind, n)
				if e2 == api.OK && !slices.Contains(l[n+1:], true) {
					e2 = api.ErrNone
				}
				if e != e2 || e != api.OK && got != 0 {
					t.Errorf("After(%v, %d, %d): %d, %d, want %d", p, kind, n, got, e, e2)
				}
			}
		}
	}
	if _, e := refusals.Hits(plan(), 0, math.MinInt); e != api.ErrRange {
		t.Errorf("Hits of the least number: %d", e)
	}
}
