package optics

import "waveplate/api"

// receiver is a station that detects light.
type receiver struct {
	eta, dark int
	dice      dice
}

// Detect returns what the receiver sees.
func Detect(o api.Optics, l []api.Light, shift int, seed uint64) ([]api.Click, api.Errno) {
	switch {
	case !isArrangement(o):
		return nil, api.ErrArg
	case !isShift(shift):
		return nil, api.ErrRange
	case len(l) > api.MaxSlots:
		return nil, api.ErrMany
	case !all(l, isLight):
		return nil, api.ErrArg
	}
	r := receiver{o.Eta, o.Dark, newDice(seed)}
	clicks := make([]api.Click, len(l))
	for slot := range clicks {
		var arriving api.Light
		if from := slot - shift; from >= 0 && from < len(l) {
			arriving = l[from]
		}
		clicks[slot] = r.click(arriving)
	}
	return clicks, api.OK
}

// click detects the light of one slot.
func (r receiver) click(l api.Light) api.Click {
	c := api.Click{Basis: r.dice.basis()}
	if l.Bright {
		if c.Basis == l.Basis {
			c.Kind = detector(l.Bit)
		}
		return c
	}
	// The kind Both is Zero and One together, so that detectors that fire are added with an or.
	for range l.Photons {
		if r.dice.hits(r.eta) {
			c.Kind |= detector(r.dice.measure(l, c.Basis))
		}
	}
	for _, bit := range [2]bool{false, true} {
		if r.dice.hits(r.dark) {
			c.Kind |= detector(bit)
		}
	}
	return c
}

// detector returns the kind of click that the detector for a bit makes.
func detector(bit bool) int {
	if bit {
		return api.One
	}
	return api.Zero
}
