package refusals_test

import (
	"regexp"
	"strings"
	"testing"

	"polder/api"
	"polder/refusals"
)

// P5.6

func TestP5_6Print(t *testing.T) {
	for _, x := range []struct {
		p    api.RfPlan
		want string
	}{
		{plan(), ""},
		{api.RfPlan{Rules: []api.RfRule{}}, ""},
		{plan(rule(0, 1, 0, 1), rule(1, 2, 0, 1), rule(2, 3, 0, 1), rule(3, 4, 0, 1), rule(4, 5, 0, 1), rule(5, 6, 0, 1), rule(6, 7, 0, 1)), "reserve 1\nrelease 2\ncommit 3\ndecommit 4\nprotect 5\njoin 6\nsplit 7\n"},
		{plan(rule(6, 10000, 12, 0)), "split 10000 every 12\n"},
		{plan(rule(6, 10000, 12, 1000)), "split 10000 every 12 times 1000\n"},
		{plan(rule(0, 1, 1, 1)), "reserve 1 every 1 times 1\n"},
	} {
		if got, e := refusals.Print(x.p); got != x.want || e != api.OK {
			t.Errorf("Print(%v): %q, %d, want %q", x.p, got, e, x.want)
		}
		if got, line, e := refusals.Parse(x.want); !same(got, x.p) || line != 0 || e != api.OK {
			t.Errorf("Parse(%q): %v, %d, %d, want %v", x.want, got, line, e, x.p)
		}
	}
}

func TestP5_6ParseErrors(t *testing.T) {
	good := "commit 3 every 2\n"
	for _, x := range []struct {
		text string
		line int
		e    api.Errno
	}{
		{"commit 1", 0, api.ErrForm},
		{"x\ncommit 1", 0, api.ErrForm},
		{"x\n" + strings.Repeat("a", 1<<20), 0, api.ErrLong},
		{strings.Repeat("x\n", 5001), 0, api.ErrLong},
		{strings.Repeat("x\n", 5000), 1, api.ErrForm},
		{strings.Repeat(good, 5001), 0, api.ErrLong},
		{strings.Repeat(good, 4999) + "x\n", 5000, api.ErrForm},
		{strings.Repeat(good, 50), 0, api.OK},
		{strings.Repeat(good, 51), 0, api.ErrLong},
		{strings.Repeat("commit 0\n", 51), 0, api.ErrLong},
		{strings.Repeat("commit 0\n", 51) + "commit\n", 52, api.ErrForm},
		{strings.Repeat(good, 49) + "commit 0\n", 50, api.ErrRange},
		{"commit 0\nx\n", 2, api.ErrForm},
		{good + "commit 0\ncommit 10001\n", 2, api.ErrRange},
		{good + "commit 10001\n", 2, api.ErrRange},
		{"commit 1000000000\n", 1, api.ErrRange},
		{"commit 1000000001\n", 1, api.ErrForm},
		{"commit 99999999999999999999\n", 1, api.ErrForm},
		{"commit 1 every 13\n", 1, api.ErrRange},
		{"commit 1 every 1000000000\n", 1, api.ErrRange},
		{"commit 1 every 1000000001\n", 1, api.ErrForm},
		{"commit 1 every 0\n", 1, api.ErrForm},
		{"commit 1 every 0 times 1\n", 1, api.ErrForm},
		{"commit 1 every 1 times 0\n", 1, api.ErrForm},
		{"commit 1 every 1 times 1001\n", 1, api.ErrRange},
		{"commit 1 every 1 times 1000000000\n", 1, api.ErrRange},
		{"commit 1 every 1 times 1000000001\n", 1, api.ErrForm},
	} {
		p, line, e := refusals.Parse(x.text)
		if line != x.line || e != x.e || e != api.OK && len(p.Rules) != 0 {
			t.Errorf("Parse(%.40q): %v, %d, %d, want %d, %d", x.text, p, line, e, x.line, x.e)
		}
	}
}

// Lines that are no lines of rules, before and behind good ones.
func TestP5_6NoRules(t *testing.T) {
	for _, s := range []string{
		"", " ", "commit", "commit ", " commit 1", "commit 1 ", "commit  1", "commit\t1", "commit 1\r", "Commit 1", "COMMIT 1", "commits 1", "commi 1", "read 1", "2 1", "1 commit",
		"commit -1", "commit -0", "commit +1", "commit 01", "commit 1.0", "commit 1e1", "commit x", "commit 0x1", "commit \"1\"", "\"commit\" 1", "commit 1 2", "commit 1,2", "commit １", "commit 1\x00",
		"commit 1 every", "commit 1 every ", "commit 1 every  2", "commit 1  every 2", "commit 1 every 02", "commit 1 every -2", "commit 1 Every 2", "commit 1 every x", "commit 1 2 every", "commit every 2", "commit  every 2", "commit 1every 2", "commit 1 every2",
		"commit 1 times 1", "commit 1 times 1 every 2", "commit 1 every 2 times", "commit 1 every 2 times ", "commit 1 every 2 times 03", "commit 1 every 2 times -3", "commit 1 every 2 times x", "commit 1 every times 3", "commit 1 every  times 3", "commit 1 every 2 3", "commit 1 every 2  times 3", "commit 1 every 2 times 3 ", "commit 1 every 2 times 3 4", "commit 1 every 2 every 3", "commit 1 every 2 times 3 times 4", "commit 1 every 2 times 3 every 4", "commit 1 every 2 commit 1",
		"commit 1 # one", strings.Repeat("commit 1 ", 1000),
	} {
		for _, x := range []struct {
			text string
			line int
		}{{s + "\n", 1}, {"split 1\n" + s + "\nx\n", 2}, {"split 0\nsplit 1\n" + s + "\n", 3}} {
			if p, line, e := refusals.Parse(x.text); len(p.Rules) != 0 || line != x.line || e != api.ErrForm {
				t.Errorf("Parse(%.60q): %v, %d, %d, want %d, ErrForm", x.text, p, line, e, x.line)
			}
		}
	}
}

var lineForm = regexp.MustCompile(`^(reserve|release|commit|decommit|protect|join|split) (0|[1-9][0-9]*)( every [1-9][0-9]*( times [1-9][0-9]*)?)?$`)

// Every sequence of up to six words, held against the form of a line. All numbers in it are valid, but 0.
func TestP5_6Words(t *testing.T) {
	words := []string{"join", "decommit", "every", "times", "0", "3", "12", "03", ""}
	var all func(line string, left int)
	all = func(line string, left int) {
		p, at, e := refusals.Parse(line + "\n")
		switch {
		case !lineForm.MatchString(line):
			if len(p.Rules) != 0 || at != 1 || e != api.ErrForm {
				t.Fatalf("Parse(%q): %v, %d, %d", line, p, at, e)
			}
		case strings.Contains(line, " 0"):
			if len(p.Rules) != 0 || at != 1 || e != api.ErrRange {
				t.Fatalf("Parse(%q): %v, %d, %d", line, p, at, e)
			}
		default:
			text, f := refusals.Print(p)
			if text != line+"\n" || at != 0 || e != api.OK || f != api.OK {
				t.Fatalf("Parse(%q): %v, %d, %d", line, p, at, e)
			}
		}
		for _, word := range words {
			if left > 0 {
				all(line+" "+word, left-1)
			}
		}
	}
	for _, word := range words {
		all(word, 5)
	}
}

// P5.9

func TestP5_9Parse(t *testing.T) {
	for _, p := range append(plans(6), smallPlans(smallRules(1, 3, 3, 2))...) {
		text, e := refusals.Print(p)
		is(t, e)
		q, line, e := refusals.Parse(text)
		if !same(q, p) || line != 0 || e != api.OK {
			t.Fatalf("Parse(%q): %v, %d, %d, want %v", text, q, line, e, p)
		}
		if strings.Count(text, "\n") != len(p.Rules) {
			t.Fatalf("Print(%v): %q", p, text)
		}
	}
}
