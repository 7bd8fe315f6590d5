package optics

import "waveplate/api"

// ruleKind is what the rules with one word have in common.
type ruleKind struct {
	word    string
	rule    api.Rule                      // the rule without its numbers
	numbers func(r *api.Rule) []number    // the numbers of its line, in order
	act     func(c *crossing, r api.Rule) // what it does in a slot
}

// ruleKinds returns the kinds of all rules.
func ruleKinds() []ruleKind {
	return []ruleKind{
		{"loss", api.Rule{Kind: api.RuleLoss}, chance, photons(1, api.MaxPhotons, lose)},
		{"noise", api.Rule{Kind: api.RuleNoise}, chance, photons(1, api.MaxPhotons, disturb)},
		{"late", api.Rule{Kind: api.RuleShift}, delay(0), pass},
		{"early", api.Rule{Kind: api.RuleShift, B: 1}, delay(1), pass},
		{"resend", api.Rule{Kind: api.RuleResend}, slotsAnd(chance), within(photons(1, api.MaxPhotons, resend))},
		{"split", api.Rule{Kind: api.RuleSplit}, slotsAnd(none), within(photons(2, api.MaxPhotons, split))},
		{"starve", api.Rule{Kind: api.RuleStarve}, slotsAnd(chance), within(photons(1, 1, lose))},
		{"blind", api.Rule{Kind: api.RuleBlind}, slotsAnd(bits), within(blind)},
	}
}

// fits reports whether a rule is a valid one of this kind: its numbers are in their ranges, and without them nothing else is in it.
func (k ruleKind) fits(r api.Rule) bool {
	l := k.numbers(&r)
	if !inRange(l) {
		return false
	}
	for _, n := range l {
		*n.field = 0
	}
	return r == k.rule
}

// none is for rules without numbers behind their slots.
func none(r *api.Rule) []number { return nil }

func chance(r *api.Rule) []number { return []number{part(&r.A)} }

func bits(r *api.Rule) []number { return []number{{&r.A, 0, 1}, {&r.B, 0, 1}} }

// delay returns the function of the slots, from least on, by which a receiver's count is off.
func delay(least int) func(r *api.Rule) []number {
	return func(r *api.Rule) []number { return []number{{&r.A, least, api.MaxShift}} }
}

// slotsAnd returns the function of the slots for which a rule holds, and other numbers behind them.
func slotsAnd(others func(r *api.Rule) []number) func(r *api.Rule) []number {
	return func(r *api.Rule) []number {
		const last = api.MaxSlots - 1
		slots := []number{{&r.From, 0, last}, {&r.To, r.From, last}}
		return append(slots, others(r)...)
	}
}
