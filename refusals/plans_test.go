package refusals_test

import (
	"slices"
	"testing"

	"polder/api"
	"polder/refusals"
)

// equal returns whether two plans refuse the same calls, by more calls than any plan needs to repeat itself.
func equal(a, b api.RfPlan) bool {
	for kind := range kinds {
		if !slices.Equal(table(a, kind, lastEnd+3*longest), table(b, kind, lastEnd+3*longest)) {
			return false
		}
	}
	return true
}

// P5.3

// The plans have numbers up to 3, so that 40 calls are more than any two of them need.
func TestP5_3SameSmall(t *testing.T) {
	all := smallPlans(smallRules(4, 2, 3, 2))
	tables := make([][]bool, len(all))
	for i, p := range all {
		tables[i] = table(p, 4, 40)
	}
	for i, a := range all {
		for k, b := range all {
			want := slices.Equal(tables[i], tables[k])
			if got, e := refusals.Same(a, b); got != want || e != api.OK {
				t.Fatalf("Same(%v, %v): %v, %d, want %v", a, b, got, e, want)
			}
		}
	}
}

func TestP5_3Same(t *testing.T) {
	end := rule(3, 10000, 12, 1000)
	for _, x := range []struct {
		a, b api.RfPlan
		want bool
	}{
		{plan(), plan(), true},
		{api.RfPlan{Rules: []api.RfRule{}}, plan(), true},
		{plan(rule(0, 1, 0, 1)), plan(rule(1, 1, 0, 1)), false},
		{plan(rule(6, 1, 0, 1)), plan(), false},
		{plan(rule(6, 1, 0, 1)), plan(rule(6, 1, 12, 1)), true},
		{plan(rule(2, 1, 1, 0)), plan(rule(2, 1, 1, 1000)), false},
		{plan(end), plan(rule(3, 10000, 12, 0)), false},
		{plan(end), plan(rule(3, 10000, 12, 999)), false},
		{plan(end), plan(end, end), true},
		{plan(rule(3, 9994, 6, 1000), rule(3, 10000, 12, 0)), plan(rule(3, 9994, 12, 500), rule(3, 10000, 12, 0)), true},
		{plan(rule(3, 9994, 6, 1000), rule(3, 10000, 12, 0)), plan(rule(3, 9994, 12, 499), rule(3, 10000, 12, 0)), false},
		{plan(rule(1, 9988, 12, 0)), plan(rule(1, 9988, 12, 1), rule(1, 10000, 12, 0)), true},
		{plan(rule(1, 5, 12, 0)), plan(rule(1, 5, 12, 900), rule(1, 9989, 12, 0)), true},
		{plan(rule(1, 5, 12, 0)), plan(rule(1, 5, 12, 831), rule(1, 9989, 12, 0)), false},
		{late(3), plan(rule(3, 1, 1, 0)), false},
		{plan(rule(3, 1, 1, 0)), late(3), false},
		{late(3), late(2), false},
		{plan(append(late(3).Rules, rule(3, gap%12, 12, 0))...), plan(rule(3, 1, 1, 0)), true},
	} {
		if got, e := refusals.Same(x.a, x.b); got != x.want || e != api.OK || got != equal(x.a, x.b) {
			t.Errorf("Same(%v, %v): %v, %d, want %v", x.a, x.b, got, e, x.want)
		}
	}
}

// Plans that differ by one rule, or by the end of one, and others.
func TestP5_3SameLarge(t *testing.T) {
	r := source()
	all := plans(1)
	for i, a := range all {
		b := all[r.IntN(len(all))]
		if len(a.Rules) > 0 && i%4 != 0 {
			b = plan(slices.Clone(a.Rules)...)
			at := r.IntN(len(b.Rules))
			switch i % 4 {
			case 1:
				b.Rules = slices.Delete(b.Rules, at, at+1)
			case 2:
				b.Rules[at].Times = 1
			case 3:
				b.Rules[at], b.Rules[0] = b.Rules[0], b.Rules[at]
			}
		}
		if got, e := refusals.Same(a, b); got != equal(a, b) || e != api.OK {
			t.Fatalf("Same(%v, %v): %v, %d", a, b, got, e)
		}
	}
}

func TestP5_3Reduce(t *testing.T) {
	all := rule(3, 1, 1, 0)
	first, second := rule(2, 1, 2, 0), rule(2, 2, 2, 0)
	for _, x := range []struct{ p, want api.RfPlan }{
		{plan(), plan()},
		{plan(rule(0, 1, 0, 1), rule(0, 1, 0, 1), rule(1, 1, 0, 1)), plan(rule(0, 1, 0, 1), rule(1, 1, 0, 1))},
		{plan(rule(2, 1, 1, 0), first, second), plan(rule(2, 1, 1, 0))},
		{plan(first, second, rule(2, 1, 1, 0)), plan(first, second)},
		{plan(first, rule(2, 1, 1, 0), second), plan(rule(2, 1, 1, 0))},
		{plan(rule(2, 1, 5, 1), rule(2, 1, 0, 1)), plan(rule(2, 1, 5, 1))},
		{plan(rule(2, 1, 0, 1), rule(3, 1, 1, 0), first), plan(rule(3, 1, 1, 0), first)},
		{plan(rule(2, 10000, 12, 0), rule(2, 10000, 12, 1000)), plan(rule(2, 10000, 12, 0))},
		{plan(rule(2, 10000, 12, 1000), rule(2, 10000, 12, 0)), plan(rule(2, 10000, 12, 0))},
		{plan(append(late(3).Rules, all)...), plan(all)},
		{plan(append([]api.RfRule{all}, late(3).Rules...)...), plan(all)},
		{plan(append(late(3).Rules, rule(4, 1, 1, 0))...), plan(append(late(3).Rules, rule(4, 1, 1, 0))...)},
	} {
		if got, e := refusals.Reduce(x.p); !same(got, x.want) || e != api.OK {
			t.Errorf("Reduce(%v): %v, %d, want %v", x.p, got, e, x.want)
		}
	}
}

// All plans of up to three small rules, in every order.
func TestP5_3ReduceSmall(t *testing.T) {
	rules := append(smallRules(4, 2, 2, 2), rule(5, 1, 1, 0))
	for _, p := range smallPlans(rules) {
		for _, x := range rules {
			q := plan(append(slices.Clone(p.Rules), x)...)
			if got, e := refusals.Reduce(q); !same(got, reduced(t, q)) || e != api.OK {
				t.Fatalf("Reduce(%v): %v, %d, want %v", q, got, e, reduced(t, q))
			}
		}
	}
}

func TestP5_3ReduceLarge(t *testing.T) {
	whole := plan(append(late(3).Rules, rule(3, gap%12, 12, 0), rule(3, 1, 1, 0))...)
	for i, p := range append([]api.RfPlan{whole}, plans(1)...) {
		got, e := refusals.Reduce(p)
		if !equal(got, p) || e != api.OK {
			t.Fatalf("Reduce(%v): %v, %d, not the same", p, got, e)
		}
		if want := reduced(t, p); i%5 == 0 && !same(got, want) {
			t.Fatalf("Reduce(%v): %v, want %v", p, got, want)
		}
	}
}

// P5.8

func TestP5_8Reduce(t *testing.T) {
	for _, p := range append(plans(1), late(1), plan(append(late(1).Rules, rule(1, gap%12, 12, 0))...)) {
		q, e := refusals.Reduce(p)
		is(t, e)
		if same, e := refusals.Same(p, q); !same || e != api.OK {
			t.Fatalf("Reduce(%v): %v, %d, not the same", p, q, e)
		}
		for i := range q.Rules {
			less := plan(slices.Delete(slices.Clone(q.Rules), i, i+1)...)
			if same, e := refusals.Same(q, less); same || e != api.OK {
				t.Fatalf("Reduce(%v): %v, %d, the rule %d is not needed", p, q, e, i)
			}
		}
	}
}

func TestP5_8Orders(t *testing.T) {
	for _, p := range plans(1) {
		for _, at := range []int{0, 1, len(p.Rules) / 2, len(p.Rules)} {
			at = min(at, len(p.Rules))
			q := plan(slices.Concat(p.Rules[at:], p.Rules[:at])...)
			if same, e := refusals.Same(p, q); !same || e != api.OK {
				t.Fatalf("Same(%v, %v): %v, %d", p, q, same, e)
			}
		}
	}
}
