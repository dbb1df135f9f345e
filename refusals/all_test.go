package refusals_test

import (
	"slices"
	"strings"
	"testing"
	"unsafe"

	"polder/api"
	"polder/refusals"
)

// P5.10

// TestP5_10AllNumbers checks rule R2, too: with an error every other result is zero.
func TestP5_10AllNumbers(t *testing.T) {
	r := source()
	some := func() int { return ends()[r.IntN(len(ends()))] }
	for range 40000 {
		p := plan()
		for range r.IntN(3) {
			p.Rules = append(p.Rules, rule(r.IntN(9)-1, some(), some(), some()))
		}
		s := api.RfState{Plan: p}
		for range r.IntN(3) {
			s.Calls[r.IntN(kinds)] = some()
			s.Hits[r.IntN(kinds)] = some()
		}
		kind, n := some(), some()
		at, e := refusals.Check(p)
		refused, e1 := refusals.Refused(p, kind, n)
		hits, e2 := refusals.Hits(p, kind, n)
		after, e3 := refusals.After(p, kind, n)
		same, e4 := refusals.Same(p, plan())
		less, e5 := refusals.Reduce(p)
		start, e6 := refusals.Start(p)
		next, is, e7 := refusals.Next(s, kind)
		rest, e8 := refusals.Rest(s)
		text, e9 := refusals.Print(p)
		refusals.CheckState(s)
		for name, bad := range map[string]bool{
			"Check": e == api.OK && at != 0, "Refused": e1 != api.OK && refused, "Hits": e2 != api.OK && hits != 0, "After": e3 != api.OK && after != 0, "Same": e4 != api.OK && same,
			"Reduce": e5 != api.OK && len(less.Rules) != 0, "Start": e6 != api.OK && !sameState(start, api.RfState{}), "Next": e7 != api.OK && (is || !sameState(next, api.RfState{})), "Rest": e8 != api.OK && len(rest.Rules) != 0, "Print": e9 != api.OK && text != "",
		} {
			if bad {
				t.Fatalf("%s of %v: a result beside an error", name, s)
			}
		}
	}
}

func TestP5_10AllStrings(t *testing.T) {
	r := source()
	parts := []string{"commit", "join", " every ", " times ", "1", "0", " ", "\n", "\x00", "\xff", "\r", "\"", "é", "-", "9999999999999999999999", strings.Repeat("\n", 5001), strings.Repeat(" ", 1<<20)}
	for range 20000 {
		s := ""
		for range r.IntN(12) {
			s += parts[r.IntN(len(parts)-2)]
		}
		if r.IntN(1000) == 0 {
			s += parts[len(parts)-1-r.IntN(2)]
		}
		p, line, e := refusals.Parse(s)
		if e == api.OK && line != 0 || e != api.OK && len(p.Rules) != 0 || line < 0 || line > strings.Count(s, "\n") {
			t.Fatalf("Parse(%.60q): %v, %d, %d", s, p, line, e)
		}
		if _, f := refusals.Check(p); f != api.OK {
			t.Fatalf("Parse(%.60q): %v is not valid: %d", s, p, f)
		}
	}
}

// callAll calls every function with the plans and the state.
func callAll(a, b api.RfPlan, s api.RfState) {
	refusals.Check(a)
	refusals.Refused(a, 2, 5)
	refusals.Hits(a, 2, most)
	refusals.After(a, 2, 5)
	refusals.Same(a, b)
	refusals.Reduce(a)
	refusals.Start(a)
	refusals.CheckState(s)
	refusals.Next(s, 2)
	refusals.Rest(s)
	refusals.Print(a)
}

func TestP5_10ArgumentsStay(t *testing.T) {
	for _, p := range append(plans(1), late(2)) {
		whole := append(slices.Clone(p.Rules), rule(2, 1, 1, 0)) // room behind the argument stays, too
		want := slices.Clone(whole)
		a := api.RfPlan{Rules: whole[:len(whole)-1]}
		b := api.RfPlan{Rules: whole[:len(whole)/2]}
		s := state(a, callsAbout(12))
		before := s
		callAll(a, b, s)
		if !slices.Equal(whole, want) || s.Calls != before.Calls || s.Hits != before.Hits {
			t.Fatalf("%v became %v", want, whole)
		}
	}
}

// A list may be nil or empty, with the same results (R4).
func TestP5_10NilAndEmpty(t *testing.T) {
	for _, p := range []api.RfPlan{{}, {Rules: []api.RfRule{}}} {
		s, e := refusals.Start(p)
		is(t, e)
		next, refused, e := refusals.Next(s, 6)
		if refused || e != api.OK || next.Calls != [kinds]int{6: 1} || next.Hits != [kinds]int{} {
			t.Errorf("Next: %v, %v, %d", next, refused, e)
		}
		less, e1 := refusals.Reduce(p)
		rest, e2 := refusals.Rest(s)
		text, e3 := refusals.Print(p)
		n, e4 := refusals.Hits(p, 2, most)
		if len(less.Rules)+len(rest.Rules)+len(text)+n != 0 || e1 != api.OK || e2 != api.OK || e3 != api.OK || e4 != api.OK {
			t.Errorf("no rules: %v, %v, %q, %d", less, rest, text, n)
		}
		if n, e := refusals.After(p, 0, 0); n != 0 || e != api.ErrNone {
			t.Errorf("After: %d, %d", n, e)
		}
	}
	if p, line, e := refusals.Parse(""); len(p.Rules) != 0 || line != 0 || e != api.OK {
		t.Errorf("Parse of no text: %v, %d, %d", p, line, e)
	}
}

func TestP5_10ResultsAreFresh(t *testing.T) {
	p := plan(append(example().Rules, rule(3, 2, 0, 1))...)
	want := slices.Clone(p.Rules)
	s := state(p, [kinds]int{})
	text, e := refusals.Print(p)
	is(t, e)
	calls := map[string]func() api.RfPlan{
		"Reduce": func() api.RfPlan { q, _ := refusals.Reduce(p); return q },
		"Start":  func() api.RfPlan { q, _ := refusals.Start(p); return q.Plan },
		"Next":   func() api.RfPlan { q, _, _ := refusals.Next(s, 6); return q.Plan },
		"Rest":   func() api.RfPlan { q, _ := refusals.Rest(s); return q },
		"Parse":  func() api.RfPlan { q, _, _ := refusals.Parse(text); return q },
	}
	for name, call := range calls {
		a, b := call(), call()
		if !slices.Equal(a.Rules, want) || !slices.Equal(b.Rules, want) {
			t.Fatalf("%s: %v, %v, want %v", name, a, b, want)
		}
		clear(a.Rules[:cap(a.Rules)])
		if c := call(); !slices.Equal(b.Rules, want) || !slices.Equal(c.Rules, want) || !slices.Equal(p.Rules, want) {
			t.Errorf("%s: results share memory: %v, %v, %v", name, b, c, p)
		}
	}
	again, _ := refusals.Print(p)
	if text != again || unsafe.StringData(text) == unsafe.StringData(again) {
		t.Errorf("Print: %q and %q are not new strings", text, again)
	}
}
