package refusals

import (
	"slices"

	"polder/api"
)

// Same returns whether both plans refuse the same calls.
func Same(a, b api.RfPlan) (bool, api.Errno) {
	if _, e := Check(a); e != api.OK {
		return false, e
	}
	if _, e := Check(b); e != api.OK {
		return false, e
	}
	for kind := range api.RfKinds {
		if !same(rulesOf(a, kind), rulesOf(b, kind)) {
			return false, api.OK
		}
	}
	return true, api.OK
}

// Reduce returns p without the rules that it does not need; of rules that could replace each other, the first ones stay.
func Reduce(p api.RfPlan) (api.RfPlan, api.Errno) {
	if _, e := Check(p); e != api.OK {
		return api.RfPlan{}, e
	}
	var times [api.RfKinds][]int // for each call, how many of the rules that are left refuse it
	for kind := range times {
		rules := rulesOf(p, kind)
		times[kind] = tally(rules, horizon(rules))
	}
	left := slices.Clone(p.Rules)
	for i, r := range slices.Backward(p.Rules) {
		if spare(r, times[r.Kind]) {
			left = slices.Delete(left, i, i+1)
		}
	}
	return api.RfPlan{Rules: left}, api.OK
}

// same reports whether both lists of rules of one kind refuse the same calls.
func same(a, b []api.RfRule) bool {
	to := horizon(slices.Concat(a, b))
	return slices.EqualFunc(tally(a, to), tally(b, to), func(x, y int) bool { return (x > 0) == (y > 0) })
}

// spare reports whether all calls of r are refused by other rules, too, and if so, takes r out of times.
func spare(r api.RfRule, times []int) bool {
	to := len(times) - 1
	for call := range calls(r, to) {
		if times[call] == 1 {
			return false
		}
	}
	for call := range calls(r, to) {
		times[call]--
	}
	return true
}
