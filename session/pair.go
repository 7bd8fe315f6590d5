package session

import (
	"slices"

	"waveplate/algebra"
	"waveplate/api"
	"waveplate/optics"
)

// maxDeliveries is how many letters Settle delivers at most.
const maxDeliveries = 100000

// Pair is two stations, a channel, and the letters that are under way.
type Pair struct {
	// self points to the pair itself: only what NewPair and Copy return is valid, neither a zero value nor an assigned copy.
	self     *Pair
	setup    api.Setup
	rules    []api.Rule
	light    uint64
	stations [2]*Station
	flying   []api.Flying
	flight   api.Flight
}

// NewPair returns a pair of stations.
func NewPair(s api.Setup, rules []api.Rule, pool []bool, light uint64) (*Pair, api.Errno) {
	if Check(s) != api.OK {
		return nil, api.ErrArg
	}
	if e := optics.CheckRules(rules); e != api.OK {
		return nil, e
	}
	p := &Pair{setup: cloneSetup(s), rules: slices.Clone(rules), light: light}
	for side := range p.stations {
		x, e := NewStation(s, side, pool)
		if e != api.OK {
			return nil, e
		}
		p.stations[side] = x
	}
	p.self = p
	return p, api.OK
}

// Settle delivers letters as long as there are any.
func (p *Pair) Settle(most int) (int, api.Errno) {
	switch {
	case !p.valid():
		return 0, api.ErrNil
	case !within(most, 0, maxDeliveries):
		return 0, api.ErrRange
	}
	n := 0
	for n < most && len(p.flying) > 0 {
		p.deliver(0) // a letter that is refused was delivered, too
		n++
	}
	return n, api.OK
}

// Flying returns the letters that are under way.
func (p *Pair) Flying() []api.Flying {
	if !p.valid() {
		return nil
	}
	return each(p.flying, cloneFlying)
}

// Flight returns the transmission of the last session.
func (p *Pair) Flight() api.Flight {
	if !p.valid() {
		return api.Flight{}
	}
	f := p.flight
	f.Pulses, f.Clicks, f.Notes = slices.Clone(f.Pulses), slices.Clone(f.Clicks), slices.Clone(f.Notes)
	return f
}

// Station returns a copy of a station.
func (p *Pair) Station(side int) *Station {
	if !p.valid() || !isSide(side) {
		return nil
	}
	return p.stations[side].Copy()
}

// Collided returns the sessions whose blocks were different, and accepted.
func (p *Pair) Collided() []int {
	if !p.valid() {
		return nil
	}
	blocks := map[int][]bool{}
	for _, r := range p.stations[sender].records {
		blocks[r.Session] = r.Block
	}
	var l []int
	for _, r := range p.stations[receiver].records {
		if block, both := blocks[r.Session]; both && !slices.Equal(block, r.Block) {
			l = append(l, r.Session)
		}
	}
	return l
}

// Copy returns an independent pair in the same state.
func (p *Pair) Copy() *Pair {
	if !p.valid() {
		return nil
	}
	c := *p
	c.self = &c
	// The rules and the flight are never changed.
	c.stations = [2]*Station{p.stations[sender].Copy(), p.stations[receiver].Copy()}
	c.flying = each(p.flying, cloneFlying)
	return &c
}

func (p *Pair) valid() bool { return p != nil && p.self == p }

// transmission returns the transmission of a session.
func (p *Pair) transmission(session int) api.Flight {
	d := algebra.New(p.light + uint64(session))
	f, _ := optics.Run(p.setup.Optics, p.rules, p.setup.Slots, [3]uint64{d.Next(), d.Next(), d.Next()})
	return f
}

// cloneFlying returns a letter under way that shares no memory with f.
func cloneFlying(f api.Flying) api.Flying {
	f.Letter = cloneLetter(f.Letter)
	return f
}
