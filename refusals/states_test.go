package refusals_test

import (
	"slices"
	"testing"

	"polder/api"
	"polder/refusals"
)

// P5.4

func TestP5_4Start(t *testing.T) {
	for _, p := range append(plans(1), plan(), example()) {
		s, e := refusals.Start(p)
		if !sameState(s, api.RfState{Plan: p}) || e != api.OK {
			t.Errorf("Start(%v): %v, %d", p, s, e)
		}
		if e := refusals.CheckState(s); e != api.OK {
			t.Errorf("CheckState of Start(%v): %d", p, e)
		}
	}
}

// callsAbout returns numbers of calls of each kind: from, and some about it.
func callsAbout(from int) [kinds]int {
	var l [kinds]int
	for kind := range l {
		l[kind] = min(max(from+kind-3, 0), most)
	}
	return l
}

func TestP5_4CheckState(t *testing.T) {
	for _, p := range []api.RfPlan{plan(), example(), late(4), plans(1)[81], plans(1)[101]} {
		var tables [kinds][]bool
		for kind := range tables {
			tables[kind] = table(p, kind, most)
		}
		for _, from := range []int{0, 8, 9999, lastEnd, gap, most} {
			s := state(p, callsAbout(from))
			if e := refusals.CheckState(s); e != api.OK {
				t.Fatalf("CheckState(%v): %d", s, e)
			}
			for kind := range kinds {
				for _, wrong := range []int{-most, -1, 1, 2, most} {
					c := s
					c.Hits[kind] += wrong
					if e := refusals.CheckState(c); e != api.ErrForm {
						t.Fatalf("CheckState(%v), Hits of %d wrong by %d: %d", c, kind, wrong, e)
					}
				}
				for _, n := range ends() {
					c := s
					c.Calls[kind] = n
					want := api.ErrForm
					if n >= 0 && n <= most && count(tables[kind][:n+1]) == c.Hits[kind] {
						want = api.OK
					}
					if e := refusals.CheckState(c); e != want {
						t.Fatalf("CheckState(%v): %d, want %d", c, e, want)
					}
				}
			}
		}
	}
}

// The state has to be valid, then the kind, then the number of calls has to leave one more.
func TestP5_4NextErrors(t *testing.T) {
	full := state(example(), [kinds]int{4, 0, most, 0, 0, 0, most})
	wrong := full
	wrong.Hits[3] = 1
	bad := wrong
	bad.Plan = plan(api.RfRule{})
	zero := api.RfState{}
	for _, x := range []struct {
		s    api.RfState
		kind int
		e    api.Errno
	}{
		{bad, -1, api.ErrRange}, {bad, 2, api.ErrRange},
		{wrong, -1, api.ErrForm}, {wrong, 7, api.ErrForm}, {wrong, 2, api.ErrForm}, {wrong, 0, api.ErrForm},
		{full, -1, api.ErrArg}, {full, 7, api.ErrArg}, {zero, -1, api.ErrArg}, {zero, 7, api.ErrArg},
		{full, 2, api.ErrLong}, {full, 6, api.ErrLong},
	} {
		if s, refused, e := refusals.Next(x.s, x.kind); !sameState(s, zero) || refused || e != x.e {
			t.Errorf("Next(%v, %d): %v, %v, %d, want the error %d", x.s, x.kind, s, refused, e, x.e)
		}
	}
	for _, kind := range ends() {
		if _, _, e := refusals.Next(zero, kind); (e == api.OK) != (kind >= 0 && kind < kinds) || e != api.OK && e != api.ErrArg {
			t.Errorf("Next of the zero state, %d: %d", kind, e)
		}
	}
}

func TestP5_4NextLast(t *testing.T) {
	for _, x := range []struct {
		p       api.RfPlan
		refused bool
	}{{plan(rule(5, 10000, 12, 0)), true}, {plan(rule(5, 9999, 12, 0)), false}, {plan(rule(4, 1, 1, 0)), false}, {late(5), true}} {
		s := state(x.p, [kinds]int{5: most - 1})
		next, refused, e := refusals.Next(s, 5)
		if refused != x.refused || e != api.OK || !sameState(next, state(x.p, [kinds]int{5: most})) {
			t.Errorf("Next of %v: %v, %v, %d", s, next, refused, e)
		}
		if last, refused, e := refusals.Next(next, 5); !sameState(last, api.RfState{}) || refused || e != api.ErrLong {
			t.Errorf("Next of %v: %v, %v, %d", next, last, refused, e)
		}
	}
}

// P5.7, and Next of P5.4

func TestP5_7Next(t *testing.T) {
	r := source()
	for _, p := range append(smallPlans(smallRules(2, 2, 2, 2)), plans(1)...) {
		for _, from := range []int{0, r.IntN(most - 20)} {
			if from > 0 && r.IntN(8) > 0 {
				continue
			}
			s := state(p, callsAbout(from))
			refusedCalls := s.Hits
			for range 20 {
				kind := r.IntN(kinds)
				if len(p.Rules) > 0 && r.IntN(2) == 0 {
					kind = p.Rules[0].Kind
				}
				next, refused, e := refusals.Next(s, kind)
				is(t, e)
				want := s
				want.Calls[kind]++
				said, e := refusals.Refused(p, kind, want.Calls[kind])
				is(t, e)
				if refused {
					refusedCalls[kind]++
				}
				want.Hits = refusedCalls
				if refused != said || !sameState(next, want) {
					t.Fatalf("Next(%v, %d): %v, %v, Refused says %v", s, kind, next, refused, said)
				}
				if e := refusals.CheckState(next); e != api.OK {
					t.Fatalf("CheckState of Next(%v, %d): %d", s, kind, e)
				}
				s = next
			}
		}
	}
}

func TestP5_7After(t *testing.T) {
	for _, p := range append(plans(1)[64:72], example(), late(2), plan()) {
		for kind := range kinds {
			l := table(p, kind, most)
			want := 0 // the number of the next call that is to come
			for n, steps := 0, 0; steps < 3000; steps++ {
				for want++; want <= most && !l[want]; want++ {
				}
				next, e := refusals.After(p, kind, n)
				if want > most {
					if next != 0 || e != api.ErrNone {
						t.Fatalf("After(%v, %d, %d): %d, %d", p, kind, n, next, e)
					}
					break
				}
				if next != want || e != api.OK {
					t.Fatalf("After(%v, %d, %d): %d, %d, want %d", p, kind, n, next, e, want)
				}
				n = next
			}
		}
	}
}

// P5.5

// left returns what is left of a rule after so many calls, and whether anything is.
func left(x api.RfRule, made int) (api.RfRule, bool) {
	to := made + 10000 // each rule has a call there that is still to come, if it has any
	all, before := numbers(x, to), numbers(x, made)
	if len(all) == len(before) {
		return api.RfRule{}, false
	}
	x.First = all[len(before)] - made
	if x.Times > 0 {
		x.Times -= len(before)
	}
	return x, true
}

func TestP5_5Rest(t *testing.T) {
	r := source()
	for _, p := range append(smallPlans(smallRules(6, 3, 3, 3)), append(plans(1), late(3))...) {
		made := []int{0, 1, 2, 3, 4, 5, 6, 7, 8, 9}
		if len(p.Rules) > 2 {
			made = []int{7, r.IntN(25000)}
		}
		for _, from := range made {
			s := state(p, callsAbout(from))
			var want []api.RfRule
			for _, x := range p.Rules {
				if y, ok := left(x, s.Calls[x.Kind]); ok {
					want = append(want, y)
				}
			}
			if got, e := refusals.Rest(s); !slices.Equal(got.Rules, want) || e != api.OK {
				t.Fatalf("Rest(%v): %v, %d, want %v", s, got, e, want)
			}
		}
	}
}

func TestP5_5RestOfOne(t *testing.T) {
	for _, x := range []struct {
		r    api.RfRule
		made int
		want []api.RfRule
	}{
		{rule(2, 1, 0, 1), 0, []api.RfRule{rule(2, 1, 0, 1)}},
		{rule(2, 1, 0, 1), 1, nil},
		{rule(2, 10000, 0, 1), 9999, []api.RfRule{rule(2, 1, 0, 1)}},
		{rule(2, 10000, 0, 1), 10000, nil},
		{rule(2, 5, 1, 0), 4, []api.RfRule{rule(2, 1, 1, 0)}},
		{rule(2, 5, 1, 0), most, []api.RfRule{rule(2, 1, 1, 0)}},
		{rule(2, 4, 12, 0), most, []api.RfRule{rule(2, 12, 12, 0)}},
		{rule(2, 5, 12, 0), most, []api.RfRule{rule(2, 1, 12, 0)}},
		{rule(2, 3, 2, 2), 2, []api.RfRule{rule(2, 1, 2, 2)}},
		{rule(2, 3, 2, 2), 3, []api.RfRule{rule(2, 2, 2, 1)}},
		{rule(2, 3, 2, 2), 4, []api.RfRule{rule(2, 1, 2, 1)}},
		{rule(2, 3, 2, 2), 5, nil},
		{rule(2, 10000, 12, 1000), lastEnd - 1, []api.RfRule{rule(2, 1, 12, 1)}},
		{rule(2, 10000, 12, 1000), lastEnd, nil},
		{rule(2, 3, 2, 2), most, nil},
	} {
		s := state(plan(x.r), [kinds]int{2: x.made})
		if got, e := refusals.Rest(s); !slices.Equal(got.Rules, x.want) || e != api.OK {
			t.Errorf("Rest(%v): %v, %d, want %v", s, got, e, x.want)
		}
		s.Hits[6] = 1
		if got, e := refusals.Rest(s); len(got.Rules) != 0 || e != api.ErrForm {
			t.Errorf("Rest(%v): %v, %d, want ErrForm", s, got, e)
		}
	}
}

// P5.9

func TestP5_9Rest(t *testing.T) {
	r := source()
	for _, p := range append(plans(1), example(), late(3)) {
		s := state(p, callsAbout([]int{5, 5000, lastEnd, r.IntN(25000), r.IntN(200000)}[r.IntN(5)]))
		q, e := refusals.Rest(s)
		is(t, e)
		if n, e := refusals.Check(q); n != 0 || e != api.OK {
			t.Fatalf("Rest(%v): %v: the rule %d has the error %d", s, q, n, e)
		}
		for kind := range kinds {
			const to = 30000
			made := s.Calls[kind]
			if !slices.Equal(table(q, kind, to)[1:], table(p, kind, made+to)[made+1:]) {
				t.Fatalf("Rest(%v): %v: not the calls of the kind %d that are to come", s, q, kind)
			}
		}
	}
}
