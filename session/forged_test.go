package session_test

import (
	"fmt"
	"math/rand/v2"
	"slices"
	"testing"

	"waveplate/api"
	"waveplate/optics"
	"waveplate/session"
)

// talk is two stations, with their twins, and somebody who has their pool and the letters that are under way.
type talk struct {
	t      *testing.T
	s      api.Setup
	pool   []bool
	flight api.Flight
	x      [2]*session.Station
	m      [2]*twin
	under  []api.Flying
	met    tally
}

// newTalk returns stations without sessions.
func newTalk(t *testing.T, s api.Setup, rules []api.Rule, pool []bool, seed uint64) *talk {
	t.Helper()
	flight, e := optics.Run(s.Optics, rules, s.Slots, [3]uint64{seed, seed + 1, seed + 2})
	if e != api.OK {
		t.Fatalf("Run: %d", e)
	}
	c := &talk{t: t, s: s, pool: pool, flight: flight, met: tally{}}
	for side := range 2 {
		c.x[side], c.m[side] = newStation(t, s, side, pool), newTwin(s, side, pool)
	}
	return c
}

// call lets a station and its twin do the same, and reports whether the results are the same.
func (c *talk) call(side int, call func(x *session.Station) ([]api.Letter, api.Errno), same func(m *twin) ([]api.Letter, api.Errno)) bool {
	l, e := call(c.x[side])
	letters, err := same(c.m[side])
	for _, x := range l {
		c.under = append(c.under, api.Flying{To: 1 - side, Letter: x})
	}
	return e == err && sameLetters(l, letters) && sameAsTwin(c.x[side], c.m[side])
}

// take lets a station take a letter.
func (c *talk) take(what string, to int, l api.Letter) {
	c.t.Helper()
	same := c.call(to,
		func(x *session.Station) ([]api.Letter, api.Errno) { return x.Take(l) },
		func(m *twin) ([]api.Letter, api.Errno) {
			letters, e := m.take(l)
			c.met.add(e)
			if e == api.OK {
				c.met.add(names[l.Kind], ": ", m.reason)
			}
			return letters, e
		})
	if !same {
		c.t.Fatalf("%s: Take of %s has another result", what, showLetters([]api.Letter{l}))
	}
}

// begin begins a session.
func (c *talk) begin(what string, side, number int, p []api.Pulse, clicks []api.Click) {
	c.t.Helper()
	same := c.call(side,
		func(x *session.Station) ([]api.Letter, api.Errno) { return x.Begin(number, p, clicks) },
		func(m *twin) ([]api.Letter, api.Errno) {
			letters, e := m.begin(number, p, clicks)
			c.met.add("begin: ", e)
			return letters, e
		})
	if !same {
		c.t.Fatalf("%s: Begin of %d has another result", what, number)
	}
}

// tagged returns a letter with its right tag, if it has one.
func tagged(l api.Letter, s api.Setup, pool []bool) api.Letter {
	if l.Number >= 0 && !wrongLetter(l, s.Width) {
		l.Tag, _, _ = tagOf(l, s.Width, pool)
	}
	return l
}

// forged returns a letter that somebody who has the pool makes of another one.
func forged(r *rand.Rand, l api.Letter, s api.Setup, pool []bool) api.Letter {
	l.Words = changedWords(r, l.Words)
	for rarely(r, 3) {
		switch r.IntN(6) {
		case 0:
			l.Kind = oneOf(r, []int{1, 2, 3, 4, 5, 6, 7, 8, 9, 10, 11, 11, 11, 0, 12, -1})
		case 1:
			l.Session = oneOf(r, []int{1, 2, l.Session + 1, 0, 1000, 1001, -1})
		case 2:
			l.Number += oneOf(r, []int{2, 2, 4, 1, -1, -2, -4, 1000, 3000, 66000})
		case 3:
			l.Words = oneOf(r, [][]int{{}, {1}, {22}, {23}, {0}, {0, 0}, {1, 1}, {0, 0, 4}, {1, 0, 1}, {0, 2, 2}})
		case 4:
			l.Words = make([]int, oneOf(r, []int{4093, 4094, 4096, 4097}))
		case 5:
			l = tagged(l, s, pool)
			l.Tag = oneOf(r, []uint64{l.Tag ^ 1, l.Tag ^ 1<<(s.Width-1), l.Tag | 1<<s.Width, 0})
			return l
		}
	}
	return tagged(l, s, pool)
}

// changedWords returns words with some changes.
func changedWords(r *rand.Rand, words []int) []int {
	l := slices.Clone(words)
	for range r.IntN(3) {
		at := r.IntN(len(l) + 1)
		switch n := r.IntN(6); {
		case n == 0 || len(l) == 0:
			l = slices.Insert(l, at, r.IntN(9))
		case at == len(l):
			l = l[:at-1]
		case n == 1:
			l[at] = oneOf(r, []int{0, 1, 2, 3, 7, 8, 65535, 65536, -1})
		case n == 2:
			l[at] += oneOf(r, []int{-2, -1, 1, 2})
		case n == 3:
			l[at] ^= 1
		case n == 4:
			l[at], l[len(l)-1] = l[len(l)-1], l[at]
		default:
			l = slices.Delete(l, at, at+1)
		}
	}
	return l
}

// anyPulses returns pulses, in some cases wrong ones.
func anyPulses(r *rand.Rand, p []api.Pulse) []api.Pulse {
	p = slices.Clone(p)
	at := r.IntN(len(p))
	switch r.IntN(20) {
	case 0:
		return p[1:]
	case 1:
		return append(p, p[0])
	case 2:
		p[at].Basis = oneOf(r, []int{-1, 2})
	case 3:
		p[at].Class = oneOf(r, []int{-1, 3})
	case 4:
		p[at].Photons = oneOf(r, []int{-1, 4})
	case 5:
		return nil
	}
	return p
}

// anyClicks returns clicks, in some cases wrong ones.
func anyClicks(r *rand.Rand, c []api.Click) []api.Click {
	c = slices.Clone(c)
	at := r.IntN(len(c))
	switch r.IntN(20) {
	case 0:
		return c[1:]
	case 1:
		return append(c, c[0])
	case 2:
		c[at].Basis = oneOf(r, []int{-1, 2})
	case 3:
		c[at].Kind = oneOf(r, []int{-1, 4})
	case 4:
		return nil
	}
	return c
}

// other makes something else happen to a talk than that a letter is taken.
func (c *talk) other(r *rand.Rand, what string) {
	c.t.Helper()
	side := r.IntN(2)
	same := true
	switch n := r.IntN(20); {
	case n < 12:
		same = c.call(side, (*session.Station).Tick, (*twin).tick)
	case n < 16:
		number := c.m[side].last + oneOf(r, []int{1, 1, 1, 1, 2, 0, -1})
		if rarely(r, 20) {
			number = oneOf(r, edgeInts)
		}
		c.begin(what, side, number, anyPulses(r, c.flight.Pulses), anyClicks(r, c.flight.Clicks))
	case n < 17:
		same = c.call(side, func(x *session.Station) ([]api.Letter, api.Errno) { return nil, x.Crash() }, (*twin).crash)
	default:
		same = c.call(side, func(x *session.Station) ([]api.Letter, api.Errno) { return nil, x.Restart() }, (*twin).restart)
	}
	if !same {
		c.t.Fatalf("%s: Tick, Crash or Restart has another result", what)
	}
}

// step makes anything happen to a talk.
func (c *talk) step(r *rand.Rand, what string) {
	c.t.Helper()
	if len(c.under) == 0 || rarely(r, 60) {
		c.other(r, what)
		return
	}
	f := c.under[0]
	c.under = c.under[1:]
	seldom := 16
	if f.Letter.Kind >= api.LetterHash {
		seldom = 3 // there are few of them
	}
	switch {
	case rarely(r, seldom):
		// What was forged is taken first, and the letter itself afterwards, if it is not the same.
		c.take(what, f.To, forged(r, f.Letter, c.s, c.pool))
	case rarely(r, 30):
		c.take(what, 1-f.To, f.Letter)
	case rarely(r, 30):
		c.take(what, f.To, f.Letter)
	}
	c.take(what, f.To, f.Letter)
}

// P7.3 to P7.6: any letters, also such that only somebody could make who has the pool, have the same results as with the second writing.
func TestForgedLetters(t *testing.T) {
	r := newRand()
	met := tally{}
	for round := range 800 {
		s := anySetup(r)
		c := newTalk(t, s, anyRules(r), anyPool(r, s.Width), r.Uint64())
		c.met = met
		c.begin("first", 1, 1, nil, c.flight.Clicks)
		c.begin("first", 0, 1, c.flight.Pulses, nil)
		for step := range 120 {
			c.step(r, fmt.Sprintf("round %d, step %d", round, step))
		}
	}
	met.wantAll(t, "0", "2", "4", "11", "13", "14", "15", "16",
		"begin: 0", "begin: 2", "begin: 3", "begin: 13", "begin: 16",
		"head: 0", "head: 6", "head: 17", "heard: 0", "heard: 6", "heard: 14", "kept: 0", "kept: 6", "shown: 0", "shown: 6", "shown: 18", "go: 0", "go: 6", "ask: 0", "ask: 6", "reply: 0", "reply: 6", "hash: 0", "hash: 6", "hash: 22", "hash: 14", "accept: 0", "accept: 6", "done: 0", "done: 6", "stop: 0", "stop: 6", "stop: 18")
	t.Log(met)
}
