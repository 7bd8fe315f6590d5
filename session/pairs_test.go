package session_test

import (
	"fmt"
	"slices"
	"testing"

	"waveplate/algebra"
	"waveplate/api"
	"waveplate/optics"
	"waveplate/session"
)

// P7.8: the errors of a new pair, in their order, and its state.
func TestNewPair(t *testing.T) {
	many := make([]bool, api.MaxBits+1)
	shift := api.Rule{Kind: api.RuleShift, A: 1}
	for _, c := range []struct {
		what  string
		rules []api.Rule
		pool  []bool
		err   api.Errno
	}{
		{"too many rules", make([]api.Rule, 33), many, api.ErrMany},
		{"a wrong rule", []api.Rule{shift, shift, {Kind: 8}}, many, api.ErrArg},
		{"two shifts", []api.Rule{shift, shift}, many, api.ErrHave},
		{"a long pool", []api.Rule{shift}, many, api.ErrLong},
		{"the longest pool", []api.Rule{shift}, many[1:], api.OK},
		{"nothing", nil, nil, api.OK},
	} {
		p, e := session.NewPair(example(), c.rules, c.pool, 1)
		wantError(t, c.what, e, c.err)
		if (p == nil) != (e != api.OK) {
			t.Errorf("%s: %v, %d", c.what, p, e)
		}
	}
	p := examplePair(t)
	wantBoth(t, "a new pair", p, api.Idle, api.OK, 0)
	if len(p.Flying()) != 0 || !sameFlight(p.Flight(), api.Flight{}) || len(p.Collided()) != 0 {
		t.Errorf("a new pair has letters, a flight, or collisions")
	}
	for _, side := range edgeInts {
		if x := p.Station(side); (x == nil) != (side != 0 && side != 1) {
			t.Errorf("Station of %d: %v", side, x)
		}
	}
}

// P7.8: what happens to the copy of a station does not happen to the pair.
func TestStationIsCopy(t *testing.T) {
	p := examplePair(t)
	do(t, p, api.OK, api.EventStart)
	x := p.Station(1)
	if l, e := x.Take(p.Flying()[0].Letter); len(l) != 1 || e != api.OK {
		t.Fatalf("Take: %s, %d", showLetters(l), e)
	}
	x.Crash()
	if len(p.Station(1).Used()) != 0 || len(p.Flying()) != 1 {
		t.Error("the pair was changed by a copy of its station")
	}
	wantPhase(t, "the station", p.Station(1), api.Busy, api.OK, 0)
	start(t, p)
	wantBoth(t, "the pair", p, api.Ended, api.OK, 1)
}

// P7.9: a start begins the next session of both, and its transmission.
func TestStart(t *testing.T) {
	p := examplePair(t, api.Rule{Kind: api.RuleShift, A: 3}, api.Rule{Kind: api.RuleResend, From: 90, To: 120, A: 200})
	for number := 1; number < 4; number++ {
		do(t, p, api.OK, api.EventStart, 5, 6) // A and B do not matter
		d := algebra.New(2 + uint64(number))
		want, e := optics.Run(example().Optics, []api.Rule{{Kind: api.RuleShift, A: 3}, {Kind: api.RuleResend, From: 90, To: 120, A: 200}}, 500, [3]uint64{d.Next(), d.Next(), d.Next()})
		if e != api.OK || !sameFlight(p.Flight(), want) || want.Shift != 3 || len(want.Notes) == 0 {
			t.Errorf("the flight of the session %d: shift %d, %d notes", number, p.Flight().Shift, len(p.Flight().Notes))
		}
		for side := range 2 {
			if x := p.Station(side); x.Session() != number || x.Phase() != api.Busy {
				t.Errorf("station %d: session %d, phase %d", side, x.Session(), x.Phase())
			}
		}
		l := p.Flying()
		if len(l) != number || l[number-1].To != 1 || l[number-1].Letter.Kind != api.LetterHead || l[number-1].Letter.Session != number {
			t.Errorf("under way: %v", l)
		}
	}
	for side := range 2 {
		q := p.Copy()
		do(t, q, api.OK, api.EventCrash, side)
		do(t, q, api.ErrDown, api.EventStart)
		if l := q.Flying(); len(l) != 3 {
			t.Errorf("%d letters", len(l))
		}
	}
}

// P7.9, P7.18: there are just MaxSessions sessions; a station that is down comes first.
func TestAllSessions(t *testing.T) {
	s := example()
	s.Slots, s.Head = 1, 0
	p := newPair(t, s, nil, nil, 1)
	for range api.MaxSessions {
		do(t, p, api.OK, api.EventStart)
	}
	do(t, p, api.ErrFull, api.EventStart)
	do(t, p, api.OK, api.EventCrash, 1)
	do(t, p, api.ErrDown, api.EventStart)
	do(t, p, api.OK, api.EventRestart, 1)
	do(t, p, api.ErrFull, api.EventStart)
	if p.Station(0).Session() != api.MaxSessions || p.Station(1).Session() != api.MaxSessions {
		t.Errorf("sessions %d, %d", p.Station(0).Session(), p.Station(1).Session())
	}
}

// P7.9: events of letters that are not under way, of stations that do not exist, and of no kind.
func TestWrongEvents(t *testing.T) {
	p := examplePair(t)
	for range 3 {
		do(t, p, api.OK, api.EventStart)
	}
	before := p.Copy()
	for _, n := range edgeInts {
		if n < 1 || n > 8 {
			do(t, p, api.ErrArg, n, 0, 0)
		}
		if n < 0 || n > 2 {
			for _, kind := range []int{api.EventDeliver, api.EventDrop, api.EventDouble, api.EventBend} {
				do(t, p, api.ErrRange, kind, n)
			}
		}
		if n < 0 || n > 1 {
			for _, kind := range []int{api.EventTick, api.EventCrash, api.EventRestart} {
				do(t, p, api.ErrRange, kind, n)
			}
		}
	}
	if !samePair(p, before) {
		t.Error("a wrong event has changed the pair")
	}
}

// P7.9: letters that are delivered, dropped, doubled and bent.
func TestLetterEvents(t *testing.T) {
	p := newPair(t, example(), nil, drawnBits(3, 9000), 2)
	for range 3 {
		do(t, p, api.OK, api.EventStart)
	}
	l := p.Flying()
	sessions := func() string {
		s := ""
		for _, f := range p.Flying() {
			s += fmt.Sprint(f.Letter.Session, f.Letter.Words[0]^l[f.Letter.Session-1].Letter.Words[0], f.Letter.Words[79]^l[f.Letter.Session-1].Letter.Words[79], f.Letter.Tag^l[f.Letter.Session-1].Letter.Tag, " ")
		}
		return s
	}
	for _, c := range []struct {
		event api.Event
		err   api.Errno
		want  string // for each letter its session, and what is changed of its words 0 and 79, and of its tag
	}{
		{event(api.EventDouble, 1), api.OK, "1 0 0 0 2 0 0 0 3 0 0 0 2 0 0 0 "},
		{event(api.EventBend, 3, 79), api.OK, "1 0 0 0 2 0 0 0 3 0 0 0 2 0 1 0 "},
		{event(api.EventBend, 1, 0), api.OK, "1 0 0 0 2 1 0 0 3 0 0 0 2 0 1 0 "},
		{event(api.EventBend, 0, 80), api.OK, "1 0 0 1 2 1 0 0 3 0 0 0 2 0 1 0 "},
		{event(api.EventBend, 2, -1), api.OK, "1 0 0 1 2 1 0 0 3 0 0 1 2 0 1 0 "},
		{event(api.EventBend, 2, 80), api.OK, "1 0 0 1 2 1 0 0 3 0 0 0 2 0 1 0 "},
		{event(api.EventDouble, 3), api.OK, "1 0 0 1 2 1 0 0 3 0 0 0 2 0 1 0 2 0 1 0 "},
		{event(api.EventBend, 4, 79), api.OK, "1 0 0 1 2 1 0 0 3 0 0 0 2 0 1 0 2 0 0 0 "},
		{event(api.EventDrop, 3), api.OK, "1 0 0 1 2 1 0 0 3 0 0 0 2 0 0 0 "},
		{event(api.EventDeliver, 0), api.ErrState, "2 1 0 0 3 0 0 0 2 0 0 0 "},
		{event(api.EventDrop, 0), api.OK, "3 0 0 0 2 0 0 0 "},
		{event(api.EventDrop, 2), api.ErrRange, "3 0 0 0 2 0 0 0 "},
		{event(api.EventDeliver, 1), api.ErrState, "3 0 0 0 "},
		{event(api.EventDouble, 0), api.OK, "3 0 0 0 3 0 0 0 "},
		{event(api.EventBend, 0, 1), api.OK, "3 0 0 0 3 0 0 0 "},
		{event(api.EventDeliver, 0), api.ErrTag, "3 0 0 0 "},
	} {
		wantError(t, fmt.Sprint(c.event), p.Do(c.event), c.err)
		if got := sessions(); got != c.want {
			t.Fatalf("%v: %q, want %q", c.event, got, c.want)
		}
	}
	do(t, p, api.OK, api.EventDeliver, 0)
	if f := p.Flying(); len(f) != 1 || f[0].To != 0 || f[0].Letter.Kind != api.LetterHeard {
		t.Errorf("behind the delivery: %v", f)
	}
}

// P7.9: at most MaxFlying letters are under way; more are lost, whoever sends them, but not made by Double.
func TestFullWay(t *testing.T) {
	s := example()
	s.Tries = 100
	p := newPair(t, s, nil, examplePool, 2)
	do(t, p, api.OK, api.EventStart)
	for len(p.Flying()) < api.MaxFlying {
		do(t, p, api.OK, api.EventDouble, 0)
	}
	do(t, p, api.ErrFull, api.EventDouble, 63)
	do(t, p, api.ErrRange, api.EventDouble, 64)
	full := p.Flying()
	do(t, p, api.OK, api.EventTick, 0)
	do(t, p, api.OK, api.EventStart)
	if !sameFlying(p.Flying(), full) {
		t.Error("more letters than the limit are under way")
	}
	if used := p.Station(0).Used(); !slices.Equal(used, []int{0, 2}) {
		t.Errorf("used %v", used) // a letter that is lost was sent
	}
	// When one is taken off its way, there is room for the answer.
	do(t, p, api.ErrState, api.EventDeliver, 9)
	do(t, p, api.OK, api.EventTick, 0)
	do(t, p, api.OK, api.EventTick, 0)
	l := p.Flying()
	if len(l) != api.MaxFlying || l[63].Letter.Session != 2 {
		t.Errorf("%d letters, the last one of the session %d", len(l), l[len(l)-1].Letter.Session)
	}
	do(t, p, api.OK, api.EventDeliver, 63)
	if l := p.Flying(); len(l) != api.MaxFlying || l[63].To != 0 {
		t.Errorf("%d letters, the last one to %d", len(l), l[len(l)-1].To)
	}
}

// P7.9: what stations do, and what they send.
func TestStationEvents(t *testing.T) {
	p := examplePair(t)
	do(t, p, api.ErrState, api.EventRestart, 0)
	do(t, p, api.ErrState, api.EventRestart, 1)
	do(t, p, api.OK, api.EventTick, 0)
	do(t, p, api.OK, api.EventStart)
	do(t, p, api.OK, api.EventDeliver)
	do(t, p, api.OK, api.EventTick, 0)
	do(t, p, api.OK, api.EventTick, 1)
	var kinds []int
	for _, f := range p.Flying() {
		kinds = append(kinds, f.To, f.Letter.Kind)
	}
	if want := []int{0, api.LetterHeard, 1, api.LetterHead, 0, api.LetterHeard}; !slices.Equal(kinds, want) {
		t.Errorf("under way: %v, want %v", kinds, want)
	}
	for side := range 2 {
		q := p.Copy()
		do(t, q, api.OK, api.EventCrash, side)
		do(t, q, api.ErrDown, api.EventCrash, side)
		do(t, q, api.ErrDown, api.EventTick, side)
		do(t, q, api.ErrDown, api.EventDeliver, side)
		wantPhase(t, "down", q.Station(side), api.Down, api.OK, 0)
		wantPhase(t, "the other one", q.Station(1-side), api.Busy, api.OK, 0)
		do(t, q, api.OK, api.EventRestart, side)
		do(t, q, api.ErrState, api.EventRestart, side)
		wantPhase(t, "again", q.Station(side), api.Idle, api.OK, 0)
		if n := len(q.Flying()); n != 2 {
			t.Errorf("%d letters", n)
		}
	}
}

// P7.10: Settle delivers the first letters, and counts them, whether they are taken or not.
func TestSettle(t *testing.T) {
	p := examplePair(t)
	for _, most := range []int{-1, -9, 100001, 1 << 40} {
		if n, e := p.Settle(most); n != 0 || e != api.ErrRange {
			t.Errorf("Settle of %d: %d, %d", most, n, e)
		}
	}
	for _, most := range []int{0, 100000} {
		if n, e := p.Settle(most); n != 0 || e != api.OK {
			t.Errorf("Settle of %d without letters: %d, %d", most, n, e)
		}
	}
	do(t, p, api.OK, api.EventStart)
	do(t, p, api.OK, api.EventDouble, 0)
	do(t, p, api.OK, api.EventBend, 1, 0)
	for _, c := range []struct{ most, n, left int }{{0, 0, 2}, {1, 1, 2}, {1, 1, 1}, {3, 3, 1}, {100000, 26, 0}, {5, 0, 0}} {
		if n, e := p.Settle(c.most); n != c.n || e != api.OK || len(p.Flying()) != c.left {
			t.Errorf("Settle of %d: %d, %d, %d letters left, want %d, %d", c.most, n, e, len(p.Flying()), c.n, c.left)
		}
	}
	wantBoth(t, "the end", p, api.Ended, api.OK, 1)
}

// P7.8: a copy of a pair is in the same state, and neither changes the other one.
func TestCopyPair(t *testing.T) {
	p := examplePair(t, api.Rule{Kind: api.RuleShift, A: 3})
	start(t, p)
	do(t, p, api.OK, api.EventStart)
	p.Settle(9)
	do(t, p, api.OK, api.EventDouble)
	a, b := p.Copy(), p.Copy()
	if !samePair(a, p) {
		t.Fatal("the copy is different")
	}
	for _, q := range []*session.Pair{a, b, p} {
		settle(t, q)
		wantBoth(t, "the second session", q, api.Ended, api.OK, 2)
		do(t, q, api.OK, api.EventStart)
		do(t, q, api.OK, api.EventBend, 0, 3)
		do(t, q, api.OK, api.EventCrash, 1)
	}
	if !samePair(a, p) || !samePair(a, b) {
		t.Error("the copies are different")
	}
}

// P7.8 to P7.11: a pair that is not valid.
func TestInvalidPairs(t *testing.T) {
	copied := *examplePair(t)
	for what, p := range map[string]*session.Pair{"nil": nil, "zero": {}, "copied": &copied} {
		for _, n := range edgeInts {
			wantError(t, what+": Do", p.Do(event(n, 0)), api.ErrNil)
		}
		for _, most := range []int{-1, 0, 5} {
			if n, e := p.Settle(most); n != 0 || e != api.ErrNil {
				t.Errorf("%s: Settle: %d, %d", what, n, e)
			}
		}
		if p.Flying() != nil || !sameFlight(p.Flight(), api.Flight{}) || p.Station(0) != nil || p.Collided() != nil || p.Copy() != nil {
			t.Errorf("%s: a value that is not zero", what)
		}
	}
}

// The chapter's examples.
func TestExamples(t *testing.T) {
	p := examplePair(t)
	do(t, p, api.OK, api.EventStart)
	if n, e := p.Settle(1000); n != 30 || e != api.OK {
		t.Errorf("Settle: %d, %d", n, e)
	}
	wantBoth(t, "without rules", p, api.Ended, api.OK, 1)
	x, y := p.Station(0).Records()[0], p.Station(1).Records()[0]
	ledger := []api.Item{{Kind: api.ItemParity, Bits: 11}, {Kind: api.ItemHash, Bits: 16}}
	if len(x.Key) != 47 || x.N != 100 || x.T != 4 || !slices.Equal(x.Ledger, ledger) || !sameRecord(x, y) {
		t.Errorf("the records %v and %v", x, y)
	}

	p = examplePair(t, api.Rule{Kind: api.RuleResend, To: 499, A: 256})
	start(t, p)
	wantBoth(t, "all measured", p, api.Stopped, api.ErrNoise, 0)

	p = examplePair(t)
	do(t, p, api.OK, api.EventStart)
	head := p.Flying()
	do(t, p, api.OK, api.EventDrop)
	for range 3 {
		do(t, p, api.OK, api.EventTick)
		if l := p.Flying(); !sameFlying(l[len(l)-1:], head) {
			t.Errorf("a tick sends %v", l[len(l)-1:])
		}
	}
	do(t, p, api.OK, api.EventTick)
	wantPhase(t, "the fourth tick", p.Station(0), api.Stopped, api.ErrNone, 0)

	p = examplePair(t)
	do(t, p, api.OK, api.EventStart)
	do(t, p, api.OK, api.EventBend, 0, 1000)
	do(t, p, api.ErrTag, api.EventDeliver)

	p = examplePair(t)
	do(t, p, api.OK, api.EventStart)
	do(t, p, api.OK, api.EventCrash, 1)
	do(t, p, api.ErrDown, api.EventDeliver)
	do(t, p, api.OK, api.EventRestart, 1)
	do(t, p, api.OK, api.EventStart)
	if n := p.Station(0).Session(); n != 2 {
		t.Errorf("session %d", n)
	}

	p = examplePair(t)
	do(t, p, api.ErrRange, api.EventDeliver)
	do(t, p, api.ErrRange, api.EventTick, 2)
}
