package sift

import "waveplate/api"

// Gains returns what became of the classes.
func Gains(pulses []api.Pulse, kept []int, bits []bool, from int) ([3]api.Gain, api.Errno) {
	if e := checkKept(pulses, kept, bits, from); e != api.OK {
		return [3]api.Gain{}, e
	}
	var gains [3]api.Gain
	for slot, p := range pulses {
		if slot >= from && p.Seen {
			gains[p.Class].Sent++
		}
	}
	for i, slot := range kept {
		g := &gains[pulses[slot].Class]
		g.Heard++
		if bits[i] != pulses[slot].Bit {
			g.Wrong++
		}
	}
	return gains, api.OK
}

// checkKept returns the error of kept slots and their bits.
func checkKept(pulses []api.Pulse, kept []int, bits []bool, from int) api.Errno {
	if e := firstError(checkPulses(pulses), checkCount(from, api.MaxSlots), checkSlots(kept, slotsOf(pulses))); e != api.OK {
		return e
	}
	switch {
	case len(kept) > 0 && kept[0] < from: // the first one is the least
		return api.ErrRange
	case len(bits) != len(kept):
		return api.ErrEqual
	}
	for _, slot := range kept {
		if !pulses[slot].Seen {
			return api.ErrState
		}
	}
	return api.OK
}

// areGains reports whether gains are valid.
func areGains(gains [3]api.Gain) bool {
	for _, g := range gains {
		if g.Wrong < 0 || g.Wrong > g.Heard || g.Heard > g.Sent || g.Sent > api.MaxSlots {
			return false
		}
	}
	return true
}
