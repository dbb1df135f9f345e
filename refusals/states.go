package refusals

import (
	"slices"

	"polder/api"
)

// Start returns the state before the first call.
func Start(p api.RfPlan) (api.RfState, api.Errno) {
	if _, e := Check(p); e != api.OK {
		return api.RfState{}, e
	}
	return api.RfState{Plan: clone(p)}, api.OK
}

// CheckState returns what is wrong with s.
func CheckState(s api.RfState) api.Errno {
	if _, e := Check(s.Plan); e != api.OK {
		return e
	}
	for kind, made := range s.Calls {
		if made < 0 || made > api.MaxRfCalls || s.Hits[kind] != hits(rulesOf(s.Plan, kind), made) {
			return api.ErrForm
		}
	}
	return api.OK
}

// Next returns the state after one more call of a kind, and whether this call is refused.
func Next(s api.RfState, kind int) (api.RfState, bool, api.Errno) {
	if e := CheckState(s); e != api.OK {
		return api.RfState{}, false, e
	}
	if !isKind(kind) {
		return api.RfState{}, false, api.ErrArg
	}
	if s.Calls[kind] == api.MaxRfCalls {
		return api.RfState{}, false, api.ErrLong
	}
	s.Plan = clone(s.Plan)
	s.Calls[kind]++
	is := refused(rulesOf(s.Plan, kind), s.Calls[kind])
	if is {
		s.Hits[kind]++
	}
	return s, is, api.OK
}

// Rest returns the plan that refuses the calls that are still to come.
func Rest(s api.RfState) (api.RfPlan, api.Errno) {
	if e := CheckState(s); e != api.OK {
		return api.RfPlan{}, e
	}
	var rest api.RfPlan
	for _, r := range s.Plan.Rules {
		if later, ok := after(r, s.Calls[r.Kind]); ok {
			rest.Rules = append(rest.Rules, later)
		}
	}
	return rest, api.OK
}

func clone(p api.RfPlan) api.RfPlan { return api.RfPlan{Rules: slices.Clone(p.Rules)} }
