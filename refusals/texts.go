package refusals

import (
	"strings"

	"polder/api"
	"polder/words"
)

var kindNames = [api.RfKinds]string{"reserve", "release", "commit", "decommit", "protect", "join", "split"}

const (
	everyWord  = " every "
	timesWord  = " times "
	mostNumber = 1000000000 // of a line
)

// Print returns the text of p.
func Print(p api.RfPlan) (string, api.Errno) {
	if _, e := Check(p); e != api.OK {
		return "", e
	}
	var text strings.Builder
	for _, r := range p.Rules {
		text.WriteString(kindNames[r.Kind] + " " + digits(r.First))
		if r.Every > 0 {
			text.WriteString(everyWord + digits(r.Every))
			if r.Times > 0 {
				text.WriteString(timesWord + digits(r.Times))
			}
		}
		text.WriteString("\n")
	}
	return text.String(), api.OK
}

// Parse returns the plan with this text, or the line with which something is wrong.
func Parse(text string) (p api.RfPlan, line int, e api.Errno) {
	lines, e := words.Lines(text)
	if e != api.OK {
		return api.RfPlan{}, 0, e
	}
nextLine:
	for i, s := range lines {
		for kind, name := range kindNames {
			numbers, found := strings.CutPrefix(s, name+" ")
			if !found {
				continue
			}
			if r, ok := parseRule(kind, numbers); ok {
				p.Rules = append(p.Rules, r)
				continue nextLine
			}
		}
		return api.RfPlan{}, i + 1, api.ErrForm
	}
	if len(lines) > api.MaxRfRules {
		return api.RfPlan{}, 0, api.ErrLong
	}
	if rule, e := Check(p); e != api.OK {
		return api.RfPlan{}, rule + 1, e
	}
	return p, 0, api.OK
}

// parseRule reads what follows the name of the kind in the line of a rule.
func parseRule(kind int, s string) (api.RfRule, bool) {
	first, s, repeats := strings.Cut(s, everyWord)
	every, times, ends := strings.Cut(s, timesWord)
	r := api.RfRule{Kind: kind, Times: 1}
	ok := parseNumber(first, 0, &r.First)
	if repeats {
		r.Times = 0
		ok = ok && parseNumber(every, 1, &r.Every)
	}
	if ends {
		ok = ok && parseNumber(times, 1, &r.Times)
	}
	return r, ok
}

// parseNumber reads a number that is not to be below least into n.
func parseNumber(s string, least int64, n *int) bool {
	number, e := words.Int(s, least, mostNumber)
	*n = int(number)
	return e == api.OK
}

func digits(n int) string { return words.Digits(int64(n)) }
