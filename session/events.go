package session

import (
	"slices"

	"waveplate/api"
)

// Do lets an event happen.
func (p *Pair) Do(e api.Event) api.Errno {
	if !p.valid() {
		return api.ErrNil
	}
	switch e.Kind {
	case api.EventStart:
		return p.start()
	case api.EventDeliver:
		return p.visit(e.A, p.deliver)
	case api.EventDrop:
		return p.visit(e.A, func(at int) api.Errno {
			p.remove(at)
			return api.OK
		})
	case api.EventDouble:
		return p.visit(e.A, p.double)
	case api.EventBend:
		return p.visit(e.A, func(at int) api.Errno {
			bend(&p.flying[at].Letter, e.B)
			return api.OK
		})
	case api.EventTick:
		return p.let(e.A, (*Station).Tick)
	case api.EventCrash:
		return p.let(e.A, silently((*Station).Crash))
	case api.EventRestart:
		return p.let(e.A, silently((*Station).Restart))
	}
	return api.ErrArg
}

// start begins a new session.
func (p *Pair) start() api.Errno {
	s, r := p.stations[sender], p.stations[receiver]
	last := max(s.last, r.last)
	switch {
	case s.phase == api.Down || r.phase == api.Down:
		return api.ErrDown
	case last == api.MaxSessions:
		return api.ErrFull
	}
	p.flight = p.transmission(last + 1)
	r.Begin(last+1, nil, p.flight.Clicks)
	letters, _ := s.Begin(last+1, p.flight.Pulses, nil)
	p.post(receiver, letters)
	return api.OK
}

// visit does something with the letter under way that has an index, if there is one.
func (p *Pair) visit(at int, do func(at int) api.Errno) api.Errno {
	if !within(at, 0, len(p.flying)-1) {
		return api.ErrRange
	}
	return do(at)
}

// let does something with a station, if there is one with this number; what it sends is under way to the other one.
func (p *Pair) let(side int, do func(x *Station) ([]api.Letter, api.Errno)) api.Errno {
	if !isSide(side) {
		return api.ErrRange
	}
	letters, e := do(p.stations[side])
	p.post(otherSide(side), letters)
	return e
}

// silently returns what do does, as something by which no letter is sent.
func silently(do func(x *Station) api.Errno) func(x *Station) ([]api.Letter, api.Errno) {
	return func(x *Station) ([]api.Letter, api.Errno) { return nil, do(x) }
}

// post puts letters under way. Those for which there is no room are lost.
func (p *Pair) post(to int, letters []api.Letter) {
	for _, l := range letters {
		if len(p.flying) < api.MaxFlying {
			p.flying = append(p.flying, api.Flying{To: to, Letter: l})
		}
	}
}

// remove takes a letter off its way.
func (p *Pair) remove(at int) api.Flying {
	f := p.flying[at]
	p.flying = slices.Delete(p.flying, at, at+1)
	return f
}

// deliver lets a letter arrive.
func (p *Pair) deliver(at int) api.Errno {
	f := p.remove(at)
	return p.let(f.To, func(x *Station) ([]api.Letter, api.Errno) { return x.Take(f.Letter) })
}

// double puts a letter under way once more.
func (p *Pair) double(at int) api.Errno {
	if len(p.flying) == api.MaxFlying {
		return api.ErrFull
	}
	p.flying = append(p.flying, cloneFlying(p.flying[at]))
	return api.OK
}

// bend changes a letter: the word with an index, or, if there is no such word, the tag.
func bend(l *api.Letter, word int) {
	if within(word, 0, len(l.Words)-1) {
		l.Words[word] ^= 1
		return
	}
	l.Tag ^= 1
}
