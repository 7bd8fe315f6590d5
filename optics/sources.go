package optics

import (
	"iter"

	"waveplate/api"
)

// Emit returns the pulses of a seed.
func Emit(o api.Optics, n int, seed uint64) ([]api.Pulse, api.Errno) {
	switch {
	case !isArrangement(o):
		return nil, api.ErrArg
	case n < 0 || n > api.MaxSlots:
		return nil, api.ErrRange
	}
	l := make([]api.Pulse, n)
	for slot, p := range pulses(o, n, newDice(seed)) {
		l[slot] = p
	}
	return l, api.OK
}

// pulses makes the pulses of the slots from 0 to n - 1.
func pulses(o api.Optics, n int, d dice) iter.Seq2[int, api.Pulse] {
	return func(yield func(slot int, p api.Pulse) bool) {
		for slot := range n {
			if !yield(slot, pulse(o, d)) {
				return
			}
		}
	}
}

// pulse makes one pulse. The order of the draws is a part of what the seed means.
func pulse(o api.Optics, d dice) api.Pulse {
	var p api.Pulse
	p.Basis = d.basis()
	p.Bit = d.bit()
	p.Class = api.Signal
	if o.Kind == api.Decoy {
		p.Class = d.choose(o.Classes[:])
	}
	p.Photons = d.choose(o.Photons[p.Class][:])
	p.Seen = o.Kind != api.Pairs || d.sees(p.Photons, o.Eta)
	return p
}

// sees draws whether at least one of some photons is detected; there is a draw for each of them.
func (d dice) sees(photons, eta int) bool {
	seen := false
	for range photons {
		if d.hits(eta) {
			seen = true
		}
	}
	return seen
}
