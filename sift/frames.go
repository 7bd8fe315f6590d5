package sift

import (
	"waveplate/api"
	"waveplate/optics"
)

// Agreement returns the agreement of a head and clicks for a shift.
func Agreement(head []api.Pulse, clicks []api.Click, shift int) (int, api.Errno) {
	if e := firstError(checkPulses(head), checkClicks(clicks)); e != api.OK {
		return 0, e
	}
	same, wrong, e := optics.Agree(head, clicks, shift) // ErrRange for other shifts
	if e != api.OK {
		return 0, e
	}
	// The slots that differ are among those that agree.
	return len(same) - 2*len(wrong), api.OK
}

// Align returns the best shift.
func Align(head []api.Pulse, clicks []api.Click, need int) (int, api.Errno) {
	if e := firstError(checkPulses(head), checkClicks(clicks), checkCount(need, api.MaxSlots)); e != api.OK {
		return 0, e
	}
	// There is no lesser agreement than that of a head that differs everywhere.
	best, greatest := 0, -len(head)
	for shift := range shifts {
		n, e := Agreement(head, clicks, shift)
		if e != api.OK {
			return 0, e
		}
		if n > greatest {
			best, greatest = shift, n
		}
	}
	if greatest < need {
		return 0, api.ErrSync
	}
	return best, api.OK
}

// shifts visits all shifts, in their order.
func shifts(yield func(shift int) bool) {
	if !yield(0) {
		return
	}
	for n := 1; n <= api.MaxShift; n++ {
		if !yield(-n) || !yield(n) {
			return
		}
	}
}
