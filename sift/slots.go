package sift

import (
	"slices"

	"waveplate/api"
	"waveplate/optics"
)

// firstFault returns the error of the first element of a list that has one: that of check, and then ErrForm if the slot of the element before it is not less.
func firstFault[T any](l []T, slotOf func(x T) int, check func(x T) api.Errno) api.Errno {
	for i, x := range l {
		if e := check(x); e != api.OK {
			return e
		}
		if i > 0 && slotOf(l[i-1]) >= slotOf(x) {
			return api.ErrForm
		}
	}
	return api.OK
}

// checkSlots returns the error of a list of slots.
func checkSlots(l []int, exists func(slot int) bool) api.Errno {
	return firstFault(l, func(slot int) int { return slot }, func(slot int) api.Errno {
		if !exists(slot) {
			return api.ErrRange
		}
		return api.OK
	})
}

// checkHeard returns the error of announcements.
func checkHeard(l []api.Heard, exists func(slot int) bool) api.Errno {
	return firstFault(l, func(h api.Heard) int { return h.Slot }, func(h api.Heard) api.Errno {
		switch {
		case !exists(h.Slot):
			return api.ErrRange
		case h.Basis != 0 && h.Basis != 1:
			return api.ErrArg
		}
		return api.OK
	})
}

// between returns the function that reports whether a slot is from first to end - 1.
func between(first, end int) func(slot int) bool {
	return func(slot int) bool { return slot >= first && slot < end }
}

// slotsOf returns the function that reports whether a slot is that of a pulse.
func slotsOf(p []api.Pulse) func(slot int) bool { return between(0, len(p)) }

// Class returns the slots of a class.
func Class(pulses []api.Pulse, slots []int, class int) ([]int, api.Errno) {
	if e := checkPulses(pulses); e != api.OK {
		return nil, e
	}
	if class < api.Vacuum || class > api.Signal {
		return nil, api.ErrArg
	}
	if e := checkSlots(slots, slotsOf(pulses)); e != api.OK {
		return nil, e
	}
	var l []int
	for _, slot := range slots {
		if pulses[slot].Class == class {
			l = append(l, slot)
		}
	}
	return l, api.OK
}

// Sent returns the sender's bits.
func Sent(pulses []api.Pulse, slots []int) ([]bool, api.Errno) {
	if e := firstError(checkPulses(pulses), checkSlots(slots, slotsOf(pulses))); e != api.OK {
		return nil, e
	}
	bits := make([]bool, len(slots))
	for i, slot := range slots {
		bits[i] = pulses[slot].Bit
	}
	return bits, api.OK
}

// Received returns the receiver's bits.
func Received(clicks []api.Click, shift int, slots []int) ([]bool, api.Errno) {
	if e := firstError(checkClicks(clicks), checkShift(shift)); e != api.OK {
		return nil, e
	}
	if e := checkSlots(slots, between(max(0, -shift), len(clicks)-shift)); e != api.OK {
		return nil, e
	}
	bits := make([]bool, len(slots))
	for i, slot := range slots {
		c := clicks[slot+shift]
		if !isHeard(c) {
			return nil, api.ErrNone
		}
		bits[i] = c.Kind == api.One
	}
	return bits, api.OK
}

// Known returns how many slots the eavesdropper knows.
func Known(pulses []api.Pulse, notes []api.Note, slots []int) (int, api.Errno) {
	if e := firstError(checkPulses(pulses), checkSlots(slots, slotsOf(pulses))); e != api.OK {
		return 0, e
	}
	known, e := optics.Knows(pulses, notes)
	if e != api.OK {
		return 0, e
	}
	n := 0
	for _, slot := range slots {
		if _, found := slices.BinarySearch(known, slot); found {
			n++
		}
	}
	return n, api.OK
}

// Blocks cuts slots into blocks. The slots may be any numbers.
func Blocks(slots []int, size int) ([][]int, api.Errno) {
	switch {
	case size < 1 || size > api.MaxBlock:
		return nil, api.ErrRange
	case len(slots) > api.MaxSlots:
		return nil, api.ErrMany
	}
	var blocks [][]int
	for end := size; end <= len(slots); end += size {
		blocks = append(blocks, slices.Clone(slots[end-size:end]))
	}
	return blocks, api.OK
}
