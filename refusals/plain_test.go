package refusals_test

import (
	"math"
	"math/rand/v2"
	"slices"
	"testing"

	"polder/api"
	"polder/refusals"
)

const (
	kinds = 7
	most  = 1000000 // calls of a kind
)

func source() *rand.Rand { return rand.New(rand.NewPCG(5, 5)) }

func rule(kind, first, every, times int) api.RfRule {
	return api.RfRule{Kind: kind, First: first, Every: every, Times: times}
}

func plan(rules ...api.RfRule) api.RfPlan { return api.RfPlan{Rules: rules} }

func same(a, b api.RfPlan) bool { return slices.Equal(a.Rules, b.Rules) }

func sameState(a, b api.RfState) bool {
	return same(a.Plan, b.Plan) && a.Calls == b.Calls && a.Hits == b.Hits
}

// numbers returns the numbers of the calls that r refuses, up to the call to, as the chapter defines them.
func numbers(r api.RfRule, to int) []int {
	var l []int
	for i := 0; r.Times == 0 || i < r.Times; i++ {
		n := r.First + i*r.Every
		if n > to {
			break
		}
		l = append(l, n)
	}
	return l
}

// table returns for each call of a kind, up to the call to, whether p refuses it; the call 0 is none.
func table(p api.RfPlan, kind, to int) []bool {
	l := make([]bool, to+1)
	for _, r := range p.Rules {
		if r.Kind == kind {
			for _, n := range numbers(r, to) {
				l[n] = true
			}
		}
	}
	return l
}

func count(l []bool) int {
	n := 0
	for _, is := range l {
		if is {
			n++
		}
	}
	return n
}

// state returns the state of p after so many calls of each kind.
func state(p api.RfPlan, calls [kinds]int) api.RfState {
	s := api.RfState{Plan: p, Calls: calls}
	for kind, n := range calls {
		s.Hits[kind] = count(table(p, kind, n))
	}
	return s
}

// smallRules returns all rules of a kind with numbers up to these.
func smallRules(kind, first, every, times int) []api.RfRule {
	var l []api.RfRule
	for f := 1; f <= first; f++ {
		l = append(l, rule(kind, f, 0, 1))
		for v := 1; v <= every; v++ {
			for n := 0; n <= times; n++ {
				l = append(l, rule(kind, f, v, n))
			}
		}
	}
	return l
}

// smallPlans returns the plans of at most two of the rules.
func smallPlans(rules []api.RfRule) []api.RfPlan {
	l := []api.RfPlan{plan()}
	for _, a := range rules {
		l = append(l, plan(a))
		for _, b := range rules {
			l = append(l, plan(a, b))
		}
	}
	return l
}

// random returns a valid rule, often with numbers at their limits.
func random(r *rand.Rand, kind int) api.RfRule {
	x := rule(kind, 1+r.IntN(10000), r.IntN(13), r.IntN(1001))
	switch r.IntN(4) {
	case 0:
		x.First = 1 + r.IntN(20)
	case 1:
		x.First = 10000 - r.IntN(3)
	}
	switch r.IntN(4) {
	case 0:
		x.Times = 0
	case 1:
		x.Times = r.IntN(4)
	case 2:
		x.Times = 1000
	}
	if x.Every == 0 {
		x.Times = 1
	}
	return x
}

// plans returns random plans of all sizes, of a single kind and of all of them.
func plans(each int) []api.RfPlan {
	r := source()
	var l []api.RfPlan
	for size := 0; size <= 50; size++ {
		for range each {
			one, all := plan(), plan()
			kind := r.IntN(kinds)
			for range size {
				one.Rules = append(one.Rules, random(r, kind))
				all.Rules = append(all.Rules, random(r, r.IntN(kinds)))
			}
			l = append(l, one, all)
		}
	}
	return l
}

// The last call of a rule that has one; after how many calls rules without an end repeat themselves; the call until which late refuses all.
const (
	lastEnd = 21988
	longest = 27720
	gap     = lastEnd + longest
)

// late returns 36 rules that refuse each call before the call gap, and not that one.
func late(kind int) api.RfPlan {
	p := plan(rule(kind, 10000, 12, 1000))
	for _, every := range []int{5, 7, 8, 9, 11} {
		for first := 1; first <= every; first++ {
			if first%every != gap%every {
				p.Rules = append(p.Rules, rule(kind, first, every, 0))
			}
		}
	}
	return p
}

// Everything else that is tested with late rests on this.
func TestLate(t *testing.T) {
	l := table(late(3), 3, 2*gap)
	if at := slices.Index(l[1:], false) + 1; at != gap || len(late(3).Rules) != 36 {
		t.Fatalf("late leaves out %d, %d rules", at, len(late(3).Rules))
	}
}

// ends are numbers at the ends of int, and about some of the limits.
func ends() []int {
	return []int{math.MinInt, math.MinInt + 1, -most, -1, 0, 1, 2, 6, 7, 12, 13, 1000, 1001, 10000, 10001, most - 1, most, most + 1, math.MaxInt - 1, math.MaxInt}
}

// badPlan is a plan that is not valid, and what Check returns for it.
type badPlan struct {
	p    api.RfPlan
	rule int
	e    api.Errno
}

func badPlans() []badPlan {
	good := rule(2, 3, 2, 0)
	full := slices.Repeat([]api.RfRule{good}, 49)
	return []badPlan{
		{plan(slices.Repeat([]api.RfRule{good}, 51)...), 0, api.ErrLong},
		{plan(make([]api.RfRule, 60)...), 0, api.ErrLong},
		{plan(good, good, rule(-1, 1, 0, 1)), 2, api.ErrArg},
		{plan(rule(7, 0, -1, -1), rule(2, 0, 1, 1)), 0, api.ErrArg},
		{plan(rule(math.MinInt, 1, 1, 1)), 0, api.ErrArg},
		{plan(rule(math.MaxInt, 1, 1, 1)), 0, api.ErrArg},
		{plan(good, api.RfRule{}), 1, api.ErrRange},
		{plan(good, rule(0, 10001, 1, 1), rule(9, 1, 1, 1)), 1, api.ErrRange},
		{plan(good, rule(6, 1, 13, 0)), 1, api.ErrRange},
		{plan(good, rule(6, 1, -1, 1)), 1, api.ErrRange},
		{plan(good, rule(6, 1, 1, 1001)), 1, api.ErrRange},
		{plan(good, rule(6, 1, 1, -1)), 1, api.ErrRange},
		{plan(rule(6, 1, 0, 1001)), 0, api.ErrRange},
		{plan(rule(6, math.MaxInt, math.MaxInt, math.MaxInt)), 0, api.ErrRange},
		{plan(rule(6, 1, 0, 0)), 0, api.ErrForm},
		{plan(good, rule(6, 1, 0, 2), api.RfRule{}), 1, api.ErrForm},
		{plan(append(full, rule(2, 1, 0, 1000))...), 49, api.ErrForm},
	}
}

// is ends the test if e is not OK.
func is(t *testing.T, e api.Errno) {
	t.Helper()
	if e != api.OK {
		t.Fatalf("error %d", e)
	}
}

// reduced returns what is left of p by the definition of Reduce.
func reduced(t *testing.T, p api.RfPlan) api.RfPlan {
	t.Helper()
	left := slices.Clone(p.Rules)
	for i := len(left) - 1; i >= 0; i-- {
		others := slices.Delete(slices.Clone(left), i, i+1)
		same, e := refusals.Same(plan(left...), plan(others...))
		is(t, e)
		if same {
			left = others
		}
	}
	return plan(left...)
}
