package optics

import "waveplate/api"

// maxNotes is how many notes the eavesdropper has at most: one for each slot and rule.
const maxNotes = api.MaxSlots * api.MaxRules

// Run returns a whole transmission.
func Run(o api.Optics, l []api.Rule, n int, seeds [3]uint64) (api.Flight, api.Errno) {
	if e := Check(o); e != api.OK {
		return api.Flight{}, e
	}
	shift, e := Shift(l)
	if e != api.OK {
		return api.Flight{}, e
	}
	pulses, e := Emit(o, n, seeds[0])
	if e != api.OK {
		return api.Flight{}, e
	}
	light, notes, e := Carry(l, pulses, seeds[1])
	if e != api.OK {
		return api.Flight{}, e
	}
	clicks, e := Detect(o, light, shift, seeds[2])
	if e != api.OK {
		return api.Flight{}, e
	}
	return api.Flight{Pulses: pulses, Clicks: clicks, Notes: notes, Shift: shift}, api.OK
}

// Agree returns the slots that agree, and those of them that differ.
func Agree(p []api.Pulse, c []api.Click, shift int) ([]int, []int, api.Errno) {
	switch {
	case !isShift(shift):
		return nil, nil, api.ErrRange
	case len(p) > api.MaxSlots || len(c) > api.MaxSlots:
		return nil, nil, api.ErrMany
	case !all(p, isPulse) || !all(c, isClick):
		return nil, nil, api.ErrArg
	}
	var same, wrong []int
	for slot, pulse := range p {
		at := slot + shift
		if at < 0 || at >= len(c) || !agree(pulse, c[at]) {
			continue
		}
		same = append(same, slot)
		if c[at].Kind != detector(pulse.Bit) {
			wrong = append(wrong, slot)
		}
	}
	return same, wrong, api.OK
}

// agree reports whether a pulse and the click that belongs to it agree.
func agree(p api.Pulse, c api.Click) bool {
	return p.Seen && p.Basis == c.Basis && (c.Kind == api.Zero || c.Kind == api.One)
}

// Knows returns the slots whose bits the eavesdropper knows.
func Knows(p []api.Pulse, notes []api.Note) ([]int, api.Errno) {
	if e := checkPulses(p); e != api.OK {
		return nil, e
	}
	if len(notes) > maxNotes {
		return nil, api.ErrMany
	}
	known := make([]bool, len(p))
	for _, n := range notes {
		if e := checkNote(n, len(p)); e != api.OK {
			return nil, e
		}
		if n.How == api.Kept || n.Basis == p[n.Slot].Basis {
			known[n.Slot] = true
		}
	}
	var slots []int
	for slot, yes := range known {
		if yes {
			slots = append(slots, slot)
		}
	}
	return slots, api.OK
}

// checkNote returns the error of a note that is not valid; the slots are those from 0 to slots - 1.
func checkNote(n api.Note, slots int) api.Errno {
	switch {
	case n.How < api.Measured || n.How > api.Forced || !isBasis(n.Basis):
		return api.ErrArg
	case n.Slot < 0 || n.Slot >= slots:
		return api.ErrRange
	}
	return api.OK
}

// Count returns how many pulses of each class have how many photons.
func Count(p []api.Pulse) ([3][4]int, api.Errno) {
	var counts [3][4]int
	if e := checkPulses(p); e != api.OK {
		return counts, e
	}
	for _, pulse := range p {
		counts[pulse.Class][pulse.Photons]++
	}
	return counts, api.OK
}
