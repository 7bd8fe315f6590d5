package session

import (
	"slices"

	"waveplate/api"
	"waveplate/distil"
	"waveplate/optics"
)

// Station is one of two stations that agree on keys.
type Station struct {
	// self points to the station itself: only what NewStation and Copy return is valid, neither a zero value nor an assigned copy.
	self  *Station
	setup api.Setup
	side  int
	lasting
	run
}

// lasting is what a crash does not take away.
type lasting struct {
	pool    *distil.Pool
	records []api.Record
	last    int // the number of the last session
}

// NewStation returns a station.
func NewStation(s api.Setup, side int, pool []bool) (*Station, api.Errno) {
	if Check(s) != api.OK || !isSide(side) {
		return nil, api.ErrArg
	}
	p, e := distil.NewPool(s.Width, pool)
	if e != api.OK {
		return nil, e
	}
	x := &Station{setup: cloneSetup(s), side: side, lasting: lasting{pool: p}}
	x.self = x
	return x, api.OK
}

// Begin begins a session.
func (x *Station) Begin(session int, p []api.Pulse, c []api.Click) ([]api.Letter, api.Errno) {
	switch {
	case !x.valid():
		return nil, api.ErrNil
	case x.phase == api.Down:
		return nil, api.ErrDown
	case !within(session, 1, api.MaxSessions):
		return nil, api.ErrRange
	case session <= x.last:
		return nil, api.ErrOld
	case x.side == sender && !x.arePulses(p), x.side == receiver && !x.areClicks(c):
		return nil, api.ErrArg
	}
	x.last = session
	x.run = run{phase: api.Busy}
	if x.side == receiver {
		x.clicks = slices.Clone(c)
		x.wait(api.LetterHead)
		return nil, api.OK
	}
	x.pulses = slices.Clone(p)
	x.wait(api.LetterHeard)
	return x.send(api.LetterHead, each(p[:x.setup.Head], headWord)...), api.OK
}

// Take takes a letter that arrives.
func (x *Station) Take(l api.Letter) (sent []api.Letter, e api.Errno) {
	switch {
	case !x.valid():
		return nil, api.ErrNil
	case x.phase == api.Down:
		return nil, api.ErrDown
	case !isLetter(l, x.setup.Width) || l.Number%2 == x.side: // each side has the numbers that are its own modulo 2
		return nil, api.ErrArg
	case x.taken != nil && sameLetter(l, *x.taken):
		return x.answerAgain(l.Kind), api.OK
	case x.phase != api.Busy || l.Session != x.last || !x.waitsFor(l.Kind):
		return nil, api.ErrState
	}
	if e := x.pool.Open(l.Number, bitsOf(l), l.Tag); e != api.OK {
		return nil, e
	}
	taken := cloneLetter(l)
	x.taken, x.ticks = &taken, 0
	defer func() {
		if recover() != nil {
			sent = x.stop(api.ErrForm)
		}
	}()
	return works()[l.Kind](x, taken.Words), api.OK
}

// Tick lets time go on.
func (x *Station) Tick() ([]api.Letter, api.Errno) {
	switch {
	case !x.valid():
		return nil, api.ErrNil
	case x.phase == api.Down:
		return nil, api.ErrDown
	case x.phase != api.Busy:
		return nil, api.OK
	}
	x.ticks++
	switch {
	case x.ticks <= x.setup.Tries:
		return x.sendAgain(), api.OK
	case x.hasAccepted():
		x.phase = api.Ended
		return nil, api.OK
	}
	return x.stop(api.ErrNone), api.OK
}

// Crash lets the station crash.
func (x *Station) Crash() api.Errno {
	switch {
	case !x.valid():
		return api.ErrNil
	case x.phase == api.Down:
		return api.ErrDown
	}
	x.run = run{phase: api.Down}
	return api.OK
}

// Restart starts it again.
func (x *Station) Restart() api.Errno {
	switch {
	case !x.valid():
		return api.ErrNil
	case x.phase != api.Down:
		return api.ErrState
	}
	x.run = run{phase: api.Idle}
	return api.OK
}

// Phase returns the phase.
func (x *Station) Phase() int {
	if !x.valid() {
		return api.Idle
	}
	return x.phase
}

// Session returns the number of the last session.
func (x *Station) Session() int {
	if !x.valid() {
		return 0
	}
	return x.last
}

// Reason returns why the session was stopped.
func (x *Station) Reason() api.Errno {
	if !x.valid() {
		return api.OK
	}
	return x.reason
}

// Records returns the keys that were accepted. Sessions have increasing numbers, so the records are in order.
func (x *Station) Records() []api.Record {
	if !x.valid() {
		return nil
	}
	return each(x.records, cloneRecord)
}

// Used returns the used numbers of the pool.
func (x *Station) Used() []int {
	if !x.valid() {
		return nil
	}
	return x.pool.Used()
}

// Copy returns an independent station in the same state.
func (x *Station) Copy() *Station {
	if !x.valid() {
		return nil
	}
	c := *x
	c.self = &c
	// All other lists are replaced, but never changed.
	c.pool, c.records, c.cascade = x.pool.Copy(), slices.Clone(x.records), x.cascade.Copy()
	return &c
}

func (x *Station) valid() bool { return x != nil && x.self == x }

// arePulses reports whether these are the pulses of a transmission.
func (x *Station) arePulses(p []api.Pulse) bool {
	_, _, e := optics.Agree(p, nil, 0) // returns no other errors here than those of pulses
	return e == api.OK && len(p) == x.setup.Slots
}

// areClicks reports whether these are the clicks of a transmission.
func (x *Station) areClicks(c []api.Click) bool {
	_, _, e := optics.Agree(nil, c, 0)
	return e == api.OK && len(c) == x.setup.Slots
}

// hasAccepted reports whether the station has accepted the key of its session.
func (x *Station) hasAccepted() bool {
	n := len(x.records)
	return n > 0 && x.records[n-1].Session == x.last
}

// cloneRecord returns a record that shares no memory with r.
func cloneRecord(r api.Record) api.Record {
	r.Block, r.Ledger, r.Key = slices.Clone(r.Block), slices.Clone(r.Ledger), slices.Clone(r.Key)
	return r
}
