package session_test

import (
	"fmt"
	"slices"
	"testing"

	"waveplate/api"
	"waveplate/session"
)

// P7.2: the errors of a new station, and its state.
func TestNewStation(t *testing.T) {
	many := make([]bool, api.MaxBits+1)
	for _, side := range edgeInts {
		x, e := session.NewStation(example(), side, many)
		err := api.ErrArg
		if side == 0 || side == 1 {
			err = api.ErrLong
		}
		if x != nil || e != err {
			t.Errorf("NewStation of side %d: %v, %d, want %d", side, x, e, err)
		}
		x, e = session.NewStation(example(), side, many[1:])
		if (x != nil) != (err == api.ErrLong) || (e == api.OK) != (err == api.ErrLong) {
			t.Errorf("NewStation of side %d: %v, %d", side, x, e)
		}
	}
	x := newStation(t, example(), 0, nil)
	wantPhase(t, "a new station", x, api.Idle, api.OK, 0)
	if x.Session() != 0 || len(x.Used()) != 0 {
		t.Errorf("a new station: session %d, used %v", x.Session(), x.Used())
	}
	if l, e := x.Tick(); len(l) != 0 || e != api.OK {
		t.Errorf("Tick: %v, %d", l, e)
	}
	wantError(t, "Restart", x.Restart(), api.ErrState)
}

// P7.2: a copy is in the same state at each moment of a session, and neither changes the other one.
func TestCopyAnytime(t *testing.T) {
	for _, s := range []api.Setup{example(), withDecoys()} {
		c := newSession(t, s)
		for len(c.under) > 0 {
			copies := [2]*session.Station{c.x[0].Copy(), c.x[1].Copy()}
			before := [2]*session.Station{c.x[0].Copy(), c.x[1].Copy()}
			end := finish(copies, c.under[0])
			again := finish([2]*session.Station{before[0].Copy(), before[1].Copy()}, c.under[0])
			if !sameLetters(end, again) || len(end) == 0 {
				t.Fatalf("copies send %s and %s", showLetters(end), showLetters(again))
			}
			for side, x := range before {
				wantPhase(t, "a finished copy", copies[side], api.Ended, api.OK, 1)
				if !sameAsTwin(x, c.m[side]) || !sameAsTwin(c.x[side], c.m[side]) {
					t.Fatalf("the station %d was changed by what its copy did", side)
				}
			}
			f := c.under[0]
			c.under = c.under[1:]
			c.take("the original", f.To, f.Letter)
		}
	}
}

// finish delivers a letter, and all that follow; it returns them.
func finish(x [2]*session.Station, f api.Flying) []api.Letter {
	sent := []api.Letter{f.Letter}
	for to, l := f.To, sent; len(l) > 0; to = 1 - to {
		l, _ = x[to].Take(l[0])
		sent = append(sent, l...)
	}
	return sent
}

// P7.2: copies that accept different keys behind the same ones have records of their own.
func TestCopiesOfRecords(t *testing.T) {
	p := newPair(t, example(), nil, drawnBits(4, 40000), 8)
	q := newPair(t, example(), nil, drawnBits(4, 40000), 9)
	for n := 1; n < 7; n++ {
		start(t, p)
		start(t, q)
		one := [2]*session.Station{p.Station(0), p.Station(1)}
		other := [2]*session.Station{one[0].Copy(), one[1].Copy()}
		for _, y := range []struct {
			x      [2]*session.Station
			flight api.Flight
		}{{one, p.Flight()}, {other, q.Flight()}} {
			y.x[1].Begin(n+1, nil, y.flight.Clicks)
			l, e := y.x[0].Begin(n+1, y.flight.Pulses, nil)
			if e != api.OK {
				t.Fatalf("Begin: %d", e)
			}
			finish(y.x, api.Flying{To: 1, Letter: l[0]})
		}
		for side := range 2 {
			a, b := one[side].Records(), other[side].Records()
			if len(a) != n+1 || len(b) != n+1 || !sameRecords(a[:n], b[:n]) || slices.Equal(a[n].Key, b[n].Key) {
				t.Errorf("%d records, and %d, of which the last ones are %v and %v", len(a), len(b), a[len(a)-1], b[len(b)-1])
			}
		}
	}
}

// P7.3: the errors of Begin, in their order.
func TestBeginErrors(t *testing.T) {
	c := newTalk(t, example(), nil, drawnBits(1, 9000), 5)
	p, k := c.flight.Pulses, c.flight.Clicks
	begin := func(what string, side, number int, p []api.Pulse, k []api.Click, err api.Errno) {
		t.Helper()
		x := c.x[side].Copy()
		before := x.Copy()
		l, e := x.Begin(number, p, k)
		wantError(t, what, e, err)
		if err != api.OK && (len(l) != 0 || !sameState(x, before)) {
			t.Errorf("%s: sent %s, or another state", what, showLetters(l))
		}
	}
	for _, number := range edgeInts {
		err := api.ErrArg
		if number < 1 || number > 1000 {
			err = api.ErrRange
		}
		for side := range 2 {
			begin(fmt.Sprintf("Begin of %d, side %d", number, side), side, number, nil, nil, err)
		}
	}
	wrongPulses, wrongClicks := slices.Clone(p), slices.Clone(k)
	wrongPulses[499].Photons, wrongClicks[499].Kind = 4, 4
	for what, l := range map[string][]api.Pulse{"none": nil, "too few": p[1:], "too many": slices.Concat(p, p[:1]), "wrong": wrongPulses, "far too many": make([]api.Pulse, 4097)} {
		begin("Begin with pulses: "+what, 0, 1, l, k, api.ErrArg)
		begin("Begin with pulses that do not matter: "+what, 1, 1, l, k, api.OK)
	}
	for what, l := range map[string][]api.Click{"none": nil, "too few": k[1:], "too many": slices.Concat(k, k[:1]), "wrong": wrongClicks, "far too many": make([]api.Click, 4097)} {
		begin("Begin with clicks: "+what, 1, 1, p, l, api.ErrArg)
		begin("Begin with clicks that do not matter: "+what, 0, 1, p, l, api.OK)
	}
	for side := range 2 {
		c.begin("the session 7", side, 7, p, k)
		begin("Begin of 7 again", side, 7, nil, nil, api.ErrOld)
		begin("Begin of 6", side, 6, nil, nil, api.ErrOld)
		begin("Begin of 0", side, 0, nil, nil, api.ErrRange)
		begin("Begin of 8, of nothing", side, 8, nil, nil, api.ErrArg)
		begin("Begin of 1000", side, 1000, p, k, api.OK)
		c.x[side].Crash()
		begin("Begin while down", side, 0, nil, nil, api.ErrDown)
	}
}

// P7.3: a new session is begun in each phase, and the one before is forgotten, except for its records.
func TestBeginAgain(t *testing.T) {
	c := newSession(t, example())
	old := c.until(api.LetterReply)
	c.under = nil
	for side := range 2 {
		c.begin("while busy", side, 2, c.flight.Pulses, c.flight.Clicks)
	}
	if f := c.under[0]; f.Letter.Session != 2 || f.Letter.Kind != api.LetterHead {
		t.Errorf("begun with %s", showLetters([]api.Letter{f.Letter}))
	}
	l, e := c.x[1].Take(old.Letter)
	wantLetters(t, "a letter of the old session", l, e, nil, api.ErrState)
	done := c.until(api.LetterDone)
	c.under = nil
	c.take("done", 0, done.Letter)
	for side := range 2 {
		wantPhase(t, "the second session", c.x[side], api.Ended, api.OK, 1)
		c.begin("while ended", side, 3, c.flight.Pulses, c.flight.Clicks)
		wantPhase(t, "the third session", c.x[side], api.Busy, api.OK, 1)
	}
	l, e = c.x[0].Take(done.Letter)
	wantLetters(t, "the last letter of the old session", l, e, nil, api.ErrState)
	stop := c.until(api.LetterHead)
	stop.Letter.Kind = api.LetterStop
	c.take("stop", 1, c.with(stop.Letter, 9))
	wantPhase(t, "stopped", c.x[1], api.Stopped, api.ErrNone, 1)
	c.begin("while stopped", 1, 4, nil, c.flight.Clicks)
	wantPhase(t, "the fourth session", c.x[1], api.Busy, api.OK, 1)
}

// P7.4: the errors of Take, in their order.
func TestTakeErrors(t *testing.T) {
	c := newSession(t, example())
	f := c.until(api.LetterKept)
	r := c.x[1]
	right := f.Letter
	letter := func(change func(l *api.Letter)) api.Letter {
		l := right
		l.Words = slices.Clone(l.Words)
		change(&l)
		return l
	}
	take := func(what string, x *session.Station, l api.Letter, err api.Errno) {
		t.Helper()
		before := x.Copy()
		sent, e := x.Take(l)
		wantLetters(t, what, sent, e, nil, err)
		if !sameState(x, before) {
			t.Errorf("%s: another state", what)
		}
	}
	take("not valid", r, letter(func(l *api.Letter) { l.Session = 0 }), api.ErrArg)
	take("a wide tag", r, letter(func(l *api.Letter) { l.Tag += 65536 }), api.ErrArg)
	take("too many words", r, letter(func(l *api.Letter) { l.Words = make([]int, 4097) }), api.ErrArg)
	take("an odd number", r, letter(func(l *api.Letter) { l.Number++ }), api.ErrArg)
	take("an even number for S", c.x[0], right, api.ErrArg)
	take("another session", r, letter(func(l *api.Letter) { l.Session, l.Number = 2, 60000 }), api.ErrState)
	take("another kind", r, letter(func(l *api.Letter) { l.Kind, l.Number = api.LetterGo, 60000 }), api.ErrState)
	take("a kind of S", r, letter(func(l *api.Letter) { l.Kind = api.LetterHeard }), api.ErrState)
	take("no such number", r, letter(func(l *api.Letter) { l.Number, l.Words = 1250, make([]int, 4096) }), api.ErrShort)
	take("a used number", r, letter(func(l *api.Letter) { l.Number, l.Words = 0, make([]int, 4096) }), api.ErrOld)
	take("more bits than a pool takes", r, letter(func(l *api.Letter) { l.Words = make([]int, 4094) }), api.ErrLong)
	take("as many bits as a pool takes", r, letter(func(l *api.Letter) { l.Words = make([]int, 4093) }), api.ErrTag)
	take("another tag", r, letter(func(l *api.Letter) { l.Tag ^= 1 << 15 }), api.ErrTag)
	take("another word", r, letter(func(l *api.Letter) { l.Words[9]++ }), api.ErrTag)
	take("another number", r, letter(func(l *api.Letter) { l.Number += 2 }), api.ErrTag)
	take("a stop of another session", r, c.with(letter(func(l *api.Letter) { l.Kind, l.Session = api.LetterStop, 2 }), 1), api.ErrState)
	take("a new station", newStation(t, example(), 1, c.pool), right, api.ErrState)
	down := r.Copy()
	down.Crash()
	take("down", down, api.Letter{}, api.ErrDown)
	down.Restart()
	take("behind a crash", down, right, api.ErrState)
	c.take("the letter itself", 1, right)
	wantPhase(t, "the letter itself", r, api.Busy, api.OK, 0)
	changed := right
	changed.Tag ^= 1
	take("the same letter with another tag", r, changed, api.ErrState)
	c.until(api.LetterDone)
	take("an old letter, when all is over", r, right, api.ErrState)
}

// P7.4: a letter that comes once more is answered as before, if R has sent it, or if it is Accept; in each phase.
func TestTakeAgain(t *testing.T) {
	answered := map[int]bool{api.LetterHeard: true, api.LetterShown: true, api.LetterAsk: true, api.LetterHash: true, api.LetterAccept: true}
	c := newSession(t, example())
	for len(c.under) > 0 {
		f := c.under[0]
		c.under = c.under[1:]
		n := len(c.under)
		c.take("once", f.To, f.Letter)
		sent := []api.Letter{}
		for _, g := range c.under[n:] {
			sent = append(sent, g.Letter)
		}
		if !answered[f.Letter.Kind] {
			sent = nil
		}
		x := c.x[f.To].Copy()
		for range 3 {
			l, e := x.Take(f.Letter)
			wantLetters(t, fmt.Sprint("again, kind ", f.Letter.Kind), l, e, sent, api.OK)
		}
		if !sameAsTwin(x, c.m[f.To]) {
			t.Errorf("kind %d: another state", f.Letter.Kind)
		}
	}
	wantPhase(t, "S", c.x[0], api.Ended, api.OK, 1)
	wantPhase(t, "R", c.x[1], api.Ended, api.OK, 1)
}

// P7.4, P7.5: a letter that is taken again does not end the waiting; a new one does.
func TestTicksCount(t *testing.T) {
	c := newSession(t, example()) // with 3 tries
	f := c.until(api.LetterShown)
	c.under = nil
	c.take("the sample", 0, f.Letter)
	s := c.x[0]
	last := c.under[0].Letter
	for i := range 3 {
		l, e := s.Tick()
		wantLetters(t, fmt.Sprint("tick ", i), l, e, []api.Letter{last}, api.OK)
		l, e = s.Take(f.Letter)
		wantLetters(t, "the sample again", l, e, []api.Letter{last}, api.OK)
	}
	stopped := s.Copy()
	l, e := stopped.Tick()
	if e != api.OK || len(l) != 1 || l[0].Kind != api.LetterStop || !slices.Equal(l[0].Words, []int{9}) {
		t.Errorf("the last tick: %s, %d", showLetters(l), e)
	}
	wantPhase(t, "behind the last tick", stopped, api.Stopped, api.ErrNone, 0)
	// What was refused does not end the waiting either, and what is taken does.
	c.m[0] = nil
	x := c.x[1].Copy()
	asked, _ := x.Take(last)
	bent := asked[0]
	bent.Tag ^= 1
	if _, e := s.Take(bent); e != api.ErrTag {
		t.Errorf("a bent question: %d", e)
	}
	y := s.Copy()
	y.Tick()
	wantPhase(t, "behind a bent question", y, api.Stopped, api.ErrNone, 0)
	reply, e := s.Take(asked[0])
	if len(reply) != 1 || e != api.OK {
		t.Fatalf("a question: %s, %d", showLetters(reply), e)
	}
	for i := range 3 {
		l, e := s.Tick()
		wantLetters(t, fmt.Sprint("tick behind a question ", i), l, e, reply, api.OK)
	}
	wantPhase(t, "behind three ticks", s, api.Busy, api.OK, 0)
	s.Tick()
	wantPhase(t, "behind four ticks", s, api.Stopped, api.ErrNone, 0)
	for range 5 {
		l, e := s.Tick()
		wantLetters(t, "a tick when stopped", l, e, nil, api.OK)
	}
}

// P7.5: a station that has nothing to send again sends nothing; one that has accepted the key ends.
func TestTickEnds(t *testing.T) {
	c := newSession(t, example())
	r := c.x[1].Copy()
	for i := range 3 {
		l, e := r.Tick()
		wantLetters(t, fmt.Sprint("tick ", i), l, e, nil, api.OK)
		wantPhase(t, "R waits", r, api.Busy, api.OK, 0)
	}
	l, e := r.Tick()
	if e != api.OK || len(l) != 1 || l[0].Kind != api.LetterStop || l[0].Number != 1 {
		t.Errorf("the last tick of R: %s, %d", showLetters(l), e)
	}
	wantPhase(t, "R", r, api.Stopped, api.ErrNone, 0)

	f := c.until(api.LetterAccept)
	s := c.x[0]
	for range 3 {
		l, e := s.Tick()
		wantLetters(t, "a tick of S", l, e, []api.Letter{f.Letter}, api.OK)
		wantPhase(t, "S waits", s, api.Busy, api.OK, 1)
	}
	l, e = s.Tick()
	wantLetters(t, "the last tick of S", l, e, nil, api.OK)
	wantPhase(t, "S", s, api.Ended, api.OK, 1)
	// A key of an earlier session is none of this one.
	if _, e := s.Begin(2, c.flight.Pulses, nil); e != api.OK {
		t.Fatalf("Begin: %d", e)
	}
	for range 4 {
		s.Tick()
	}
	wantPhase(t, "S in the next session", s, api.Stopped, api.ErrNone, 1)
}

// P7.5: the greatest number of tries, and the least one.
func TestTries(t *testing.T) {
	for _, tries := range []int{1, 2, 100} {
		s := example()
		s.Tries = tries
		x := newSession(t, s).x[0]
		for i := range tries {
			if l, e := x.Tick(); len(l) != 1 || l[0].Kind != api.LetterHead || e != api.OK {
				t.Fatalf("tick %d of %d: %s, %d", i, tries, showLetters(l), e)
			}
		}
		if l, e := x.Tick(); len(l) != 1 || l[0].Kind != api.LetterStop || e != api.OK {
			t.Errorf("the tick behind %d tries: %s, %d", tries, showLetters(l), e)
		}
	}
}

// P7.6, P7.7, P7.18: what a crash takes away, and what it does not.
func TestCrashOfStation(t *testing.T) {
	c := newSession(t, example())
	done := c.until(api.LetterDone)
	for side, x := range c.x {
		records, used := x.Records(), x.Used()
		wantError(t, "Restart of a station that is not down", x.Restart(), api.ErrState)
		wantError(t, "Crash", x.Crash(), api.OK)
		wantError(t, "Crash again", x.Crash(), api.ErrDown)
		wantPhase(t, "down", x, api.Down, api.OK, 1)
		if _, e := x.Tick(); e != api.ErrDown {
			t.Errorf("Tick while down: %d", e)
		}
		for range 2 {
			if x.Session() != 1 || !sameRecords(x.Records(), records) || !slices.Equal(x.Used(), used) || len(used) == 0 {
				t.Errorf("side %d: session %d, records %v, used %v", side, x.Session(), x.Records(), x.Used())
			}
			x.Restart()
		}
		wantPhase(t, "again", x, api.Idle, api.OK, 1)
		wantError(t, "Restart again", x.Restart(), api.ErrState)
		if l, e := x.Tick(); len(l) != 0 || e != api.OK {
			t.Errorf("Tick behind a crash: %s, %d", showLetters(l), e)
		}
	}
	// The station has forgotten that it waited for this letter; and the numbers go on where they were.
	l, e := c.x[0].Take(done.Letter)
	wantLetters(t, "done behind a crash", l, e, nil, api.ErrState)
	last := slices.Max(c.m[0].usedNumbers())
	l, e = c.x[0].Begin(2, c.flight.Pulses, nil)
	if len(l) != 1 || l[0].Number <= last-2 || l[0].Number%2 != 0 || e != api.OK {
		t.Errorf("Begin behind a crash: %s, %d", showLetters(l), e)
	}
	// A station that was stopped has no reason any more.
	x := newSession(t, example()).x[1]
	for range 4 {
		x.Tick()
	}
	wantPhase(t, "stopped", x, api.Stopped, api.ErrNone, 0)
	x.Crash()
	wantPhase(t, "stopped, and down", x, api.Down, api.OK, 0)
	x.Restart()
	wantPhase(t, "stopped, and again", x, api.Idle, api.OK, 0)
}

// P7.3, P7.4, P7.5: the pool may be too short for any letter.
func TestShortPools(t *testing.T) {
	const letters = 30 // those of the example: the numbers 0 to 29
	for n := range letters + 1 {
		p := newPair(t, example(), nil, make([]bool, 32*n+31), 2)
		start(t, p)
		s, r := p.Station(0), p.Station(1)
		what := fmt.Sprint(n, " numbers")
		if used := append(s.Used(), r.Used()...); slices.ContainsFunc(used, func(k int) bool { return k >= n }) {
			t.Errorf("%s: used %v", what, used)
		}
		switch {
		case n == letters:
			wantBoth(t, what, p, api.Ended, api.OK, 1)
		case n == letters-1: // R has no number for Done
			wantPhase(t, what, s, api.Busy, api.OK, 1)
			wantPhase(t, what, r, api.Stopped, api.ErrShort, 1)
		case n == letters-2: // S has none for Accept
			wantPhase(t, what, s, api.Stopped, api.ErrShort, 1)
			wantPhase(t, what, r, api.Busy, api.OK, 0)
		default:
			wantPhase(t, what, p.Station(n%2), api.Stopped, api.ErrShort, 0)
			wantPhase(t, what, p.Station(1-n%2), api.Busy, api.OK, 0)
		}
		// The other one cannot stop without a number either.
		for range 4 {
			do(t, p, api.OK, api.EventTick, 0)
			do(t, p, api.OK, api.EventTick, 1)
			p.Settle(20) // see TestAgainAndAgain
		}
		if n == letters-1 {
			wantPhase(t, what, p.Station(0), api.Ended, api.OK, 1)
		} else if n < letters {
			wantStoppedShort(t, what, p)
		}
	}
}

// wantStoppedShort fails unless both stations of a pair were stopped, one of them because the pool is too short, and the other one because of that, or because it has waited.
func wantStoppedShort(t *testing.T, what string, p *session.Pair) {
	t.Helper()
	for side := range 2 {
		if x := p.Station(side); x.Phase() != api.Stopped || x.Reason() != api.ErrShort && x.Reason() != api.ErrNone {
			t.Errorf("%s, station %d: phase %d, reason %d", what, side, x.Phase(), x.Reason())
		}
	}
}

// P7.4: if the pool is too short for an answer, the last letter before is what is sent again.
func TestAgainWithShortPool(t *testing.T) {
	pool := make([]bool, 32*28)
	p := newPair(t, example(), nil, pool, 2)
	do(t, p, api.OK, api.EventStart)
	var last api.Letter
	for l := p.Flying(); len(l) > 0; l = p.Flying() {
		if l[0].To == 1 {
			last = l[0].Letter
		}
		do(t, p, api.OK, api.EventDeliver)
	}
	wantPhase(t, "S", p.Station(0), api.Stopped, api.ErrShort, 1)
	do(t, p, api.OK, api.EventTick, 1) // the digest once more
	do(t, p, api.OK, api.EventDeliver)
	if l := p.Flying(); len(l) != 1 || !sameLetter(l[0].Letter, last) || last.Kind != api.LetterReply {
		t.Errorf("S sends %v again, want %s", l, showLetters([]api.Letter{last}))
	}
	// And R, which has sent nothing, has nothing to send again.
	x := newStation(t, example(), 1, nil)
	if l, e := x.Begin(1, nil, p.Flight().Clicks); len(l) != 0 || e != api.OK {
		t.Errorf("Begin of R: %s, %d", showLetters(l), e)
	}
	y := newStation(t, example(), 0, nil)
	if l, e := y.Begin(1, p.Flight().Pulses, nil); len(l) != 0 || e != api.OK {
		t.Errorf("Begin of S: %s, %d", showLetters(l), e)
	}
	wantPhase(t, "S without a pool", y, api.Stopped, api.ErrShort, 0)
}

// P7.4: if R has no number for Done, what it sends again is its digest, which S answers by Accept again, as often as these are delivered.
func TestAgainAndAgain(t *testing.T) {
	p := newPair(t, example(), nil, make([]bool, 32*29), 2)
	start(t, p)
	wantPhase(t, "R", p.Station(1), api.Stopped, api.ErrShort, 1)
	before := p.Station(0).Copy()
	do(t, p, api.OK, api.EventTick, 0)
	for i, kind := range []int{api.LetterAccept, api.LetterHash, api.LetterAccept, api.LetterHash, api.LetterAccept} {
		if l := p.Flying(); len(l) != 1 || l[0].Letter.Kind != kind {
			t.Fatalf("delivery %d: under way are %v, want the kind %d", i, l, kind)
		}
		do(t, p, api.OK, api.EventDeliver)
	}
	if n, e := p.Settle(99); n != 99 || e != api.OK || !sameState(p.Station(0), before) {
		t.Errorf("Settle: %d, %d", n, e)
	}
	for range 4 {
		do(t, p, api.OK, api.EventTick, 0)
	}
	wantPhase(t, "S", p.Station(0), api.Ended, api.OK, 1)
}

// P7.7: a station that is not valid.
func TestInvalidStations(t *testing.T) {
	copied := *newStation(t, example(), 0, examplePool)
	for what, x := range map[string]*session.Station{"nil": nil, "zero": {}, "copied": &copied} {
		_, e := x.Begin(0, nil, nil)
		wantError(t, what+": Begin", e, api.ErrNil)
		_, e = x.Take(api.Letter{})
		wantError(t, what+": Take", e, api.ErrNil)
		_, e = x.Tick()
		wantError(t, what+": Tick", e, api.ErrNil)
		wantError(t, what+": Crash", x.Crash(), api.ErrNil)
		wantError(t, what+": Restart", x.Restart(), api.ErrNil)
		if x.Phase() != 0 || x.Session() != 0 || x.Reason() != 0 || x.Records() != nil || x.Used() != nil || x.Copy() != nil {
			t.Errorf("%s: a value that is not zero", what)
		}
	}
}
