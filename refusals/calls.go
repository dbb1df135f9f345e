package refusals

import (
	"iter"

	"polder/api"
)

// The functions of this file have rules of one kind, which are valid.

// calls yields the calls that r refuses, up to the call to, ascending.
func calls(r api.RfRule, to int) iter.Seq[int] {
	return func(yield func(int) bool) {
		for i := 0; r.Times == 0 || i < r.Times; i++ {
			call := r.First + i*r.Every
			if call > to || !yield(call) {
				return
			}
		}
	}
}

// after returns the rule that refuses the calls of r after the n-th one, numbered from 1 again, and whether there are such calls.
func after(r api.RfRule, n int) (api.RfRule, bool) {
	past := 0 // how many calls of r are among the first n
	if n >= r.First {
		past = 1
		if r.Every > 0 {
			past += (n - r.First) / r.Every
		}
	}
	if r.Times > 0 {
		if past >= r.Times {
			return api.RfRule{}, false
		}
		r.Times -= past
	}
	r.First += past*r.Every - n
	return r, true
}

// refused reports whether a rule refuses the n-th call.
func refused(rules []api.RfRule, n int) bool {
	for _, r := range rules {
		if later, ok := after(r, n-1); ok && later.First == 1 {
			return true
		}
	}
	return false
}

// hits returns how many of the first n calls the rules refuse. Rounds in which they repeat themselves are counted together, as n may be large.
func hits(rules []api.RfRule, n int) int {
	from, period := cycle(rules)
	rounds := max(0, n-from) / period
	single := n - rounds*period
	sum := 0
	for call, times := range tally(rules, min(n, single+period)) {
		if times == 0 {
			continue
		}
		if call <= single {
			sum++
		} else {
			sum += rounds
		}
	}
	return sum
}

// tally returns for each call, up to the call to, how many rules refuse it.
func tally(rules []api.RfRule, to int) []int {
	times := make([]int, to+1) // the call 0 is none
	for _, r := range rules {
		for call := range calls(r, to) {
			times[call]++
		}
	}
	return times
}

// horizon returns a call up to which the rules show all that they do: what holds for each call up to there holds for each later one.
func horizon(rules []api.RfRule) int {
	from, period := cycle(rules)
	return from + period
}

// cycle returns a call after which the rules do the same again and again, and after how many calls they do it again.
func cycle(rules []api.RfRule) (from, period int) {
	period = 1
	for _, r := range rules {
		if r.Times > 0 {
			from = max(from, r.First+(r.Times-1)*r.Every) // its last call
			continue
		}
		from = max(from, r.First)
		period *= r.Every / divisor(period, r.Every)
	}
	return from, period
}

// divisor returns the greatest common divisor of a and b.
func divisor(a, b int) int {
	for b > 0 {
		a, b = b, a%b
	}
	return a
}
