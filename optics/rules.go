package optics

import (
	"strings"

	"waveplate/api"
)

// CheckRule reports whether a rule is valid.
func CheckRule(r api.Rule) api.Errno {
	if _, ok := kindOf(r); !ok {
		return api.ErrArg
	}
	return api.OK
}

// CheckRules reports whether rules are a channel.
func CheckRules(l []api.Rule) api.Errno {
	if len(l) > api.MaxRules {
		return api.ErrMany
	}
	for _, r := range l {
		if e := CheckRule(r); e != api.OK {
			return e
		}
	}
	if countShifts(l) > 1 {
		return api.ErrHave
	}
	return api.OK
}

// Line returns the line of a rule.
func Line(r api.Rule) (string, api.Errno) {
	k, ok := kindOf(r)
	if !ok {
		return "", api.ErrArg
	}
	return write(k.word, k.numbers(&r)), api.OK
}

// Script returns the text of a channel.
func Script(l []api.Rule) (string, api.Errno) {
	if e := CheckRules(l); e != api.OK {
		return "", e
	}
	var text strings.Builder
	for _, r := range l {
		line, _ := Line(r) // the rule is valid
		text.WriteString(line)
		text.WriteByte('\n')
	}
	return text.String(), api.OK
}

// Rules reads a channel. With an error it returns the number of the line that is wrong.
func Rules(s string) ([]api.Rule, int, api.Errno) {
	if len(s) > api.MaxText {
		return nil, 0, api.ErrLong
	}
	var l []api.Rule
	for s != "" {
		line, rest, ended := strings.Cut(s, "\n")
		r, ok := parseRule(line)
		l = append(l, r)
		switch {
		case len(l) > api.MaxRules:
			return nil, len(l), api.ErrMany
		case !ok || !ended:
			return nil, len(l), api.ErrForm
		case countShifts(l) > 1:
			return nil, len(l), api.ErrHave
		}
		s = rest
	}
	return l, 0, api.OK
}

// Shift returns the shift of a channel.
func Shift(l []api.Rule) (int, api.Errno) {
	if e := CheckRules(l); e != api.OK {
		return 0, e
	}
	for _, r := range l {
		switch {
		case r.Kind == api.RuleShift && r.B == 0:
			return r.A, api.OK
		case r.Kind == api.RuleShift:
			return -r.A, api.OK
		}
	}
	return 0, api.OK
}

// countShifts returns how many rules are a RuleShift.
func countShifts(l []api.Rule) int {
	n := 0
	for _, r := range l {
		if r.Kind == api.RuleShift {
			n++
		}
	}
	return n
}

// parseRule returns the rule of a line, and whether it is that of a valid one.
func parseRule(line string) (api.Rule, bool) {
	word, rest, _ := strings.Cut(line, " ")
	for _, k := range ruleKinds() {
		r := k.rule
		if word == k.word && read(rest, k.numbers(&r)) && k.fits(r) {
			return r, true
		}
	}
	return api.Rule{}, false
}

// kindOf returns the kind of a rule, and whether it is of one: whether it is valid.
func kindOf(r api.Rule) (ruleKind, bool) {
	for _, k := range ruleKinds() {
		if k.fits(r) {
			return k, true
		}
	}
	return ruleKind{}, false
}
