package session_test

import (
	"math"
	"slices"
	"testing"

	"waveplate/api"
	"waveplate/session"
)

// spare returns a list with elements beyond its end.
func spare[T any](l []T, filler T) []T {
	longer := append(slices.Clone(l), filler, filler, filler)
	return longer[:len(l)]
}

// wreck changes all elements of a list, up to its capacity.
func wreck[T any](l []T, filler T) {
	l = l[:cap(l)]
	for i := range l {
		l[i] = filler
	}
}

// inputs are all lists that a caller gives.
type inputs struct {
	setup api.Setup
	pool  []bool
	rules []api.Rule
}

func anyInputs() inputs {
	return inputs{withNoise(), drawnBits(9, 20000), []api.Rule{{Kind: api.RuleNoise, A: 3}, {Kind: api.RuleShift, A: 7}, {Kind: api.RuleResend, From: 90, To: 120, A: 9}}}
}

// withSpare returns the same lists with elements beyond their ends.
func (a inputs) withSpare() inputs {
	for _, f := range []*api.Frac{&a.setup.Eps, &a.setup.Limit} {
		f.Num, f.Den = spare(f.Num, 77), spare(f.Den, 77)
	}
	a.pool, a.rules = spare(a.pool, true), spare(a.rules, api.Rule{Kind: 77})
	return a
}

func (a inputs) wreck() {
	for _, f := range []*api.Frac{&a.setup.Eps, &a.setup.Limit} {
		wreck(f.Num, math.MaxUint32)
		wreck(f.Den, 1)
	}
	wreck(a.pool, true)
	wreck(a.rules, api.Rule{Kind: api.RuleNoise, A: 256})
}

// same reports whether the lists of two inputs are equal, with the elements beyond their ends.
func (a inputs) same(b inputs) bool {
	same := slices.Equal(a.pool[:cap(a.pool)], b.pool[:cap(b.pool)]) && slices.Equal(a.rules[:cap(a.rules)], b.rules[:cap(b.rules)])
	for _, f := range [][2]api.Nat{{a.setup.Eps.Num, b.setup.Eps.Num}, {a.setup.Eps.Den, b.setup.Eps.Den}, {a.setup.Limit.Num, b.setup.Limit.Num}, {a.setup.Limit.Den, b.setup.Limit.Den}} {
		same = same && slices.Equal(f[0][:cap(f[0])], f[1][:cap(f[1])])
	}
	return same
}

// wreckPair changes all that a pair and its stations give out.
func wreckPair(p *session.Pair) {
	for _, f := range p.Flying() {
		wreck(f.Letter.Words, 7)
	}
	f := p.Flight()
	wreck(f.Pulses, api.Pulse{Basis: 9})
	wreck(f.Clicks, api.Click{Basis: 9})
	wreck(f.Notes, api.Note{Slot: 9})
	wreck(p.Flying(), api.Flying{To: 1})
	wreck(p.Collided(), 7)
	for side := range 2 {
		x := p.Station(side)
		for _, r := range x.Records() {
			wreck(r.Block, true)
			wreck(r.Key, true)
			wreck(r.Ledger, api.Item{})
		}
		wreck(x.Records(), api.Record{})
		wreck(x.Used(), 7)
	}
}

// R5: a pair keeps nothing of what it is given, changes nothing of it, and gives out nothing of its own.
func TestMemoryOfPairs(t *testing.T) {
	a := anyInputs()
	p := newPair(t, a.setup, a.rules, a.pool, 2)
	b, c := anyInputs().withSpare(), anyInputs().withSpare()
	q := newPair(t, b.setup, b.rules, b.pool, 2)
	if !b.same(c) {
		t.Error("an argument was changed")
	}
	b.wreck()
	for range 3 {
		do(t, p, api.OK, api.EventStart)
		do(t, q, api.OK, api.EventStart)
		for len(p.Flying()) > 0 {
			wreckPair(q)
			wreckPair(q.Copy())
			if !samePair(p, q) {
				t.Fatal("what was given out has changed the pair")
			}
			do(t, p, api.OK, api.EventDeliver)
			do(t, q, api.OK, api.EventDeliver)
		}
	}
	wantBoth(t, "the end", p, api.Ended, api.OK, 3)
	wreckPair(q)
	if !samePair(p, q) {
		t.Error("the pairs are different")
	}
}

// wreckLetters changes the words of letters.
func wreckLetters(l []api.Letter) {
	for _, x := range l {
		wreck(x.Words, 9)
	}
	wreck(l, api.Letter{})
}

// R5: a station keeps nothing of what it takes, changes nothing of it, and gives out nothing of its own.
func TestMemoryOfStations(t *testing.T) {
	a, b := anyInputs(), anyInputs().withSpare()
	c := newTalk(t, a.setup, a.rules, a.pool, 4)
	c.begin("first", 1, 1, nil, c.flight.Clicks)
	c.begin("first", 0, 1, c.flight.Pulses, nil)
	var x [2]*session.Station
	for side := range 2 {
		x[side] = newStation(t, b.setup, side, b.pool)
		pulses, clicks := spare(c.flight.Pulses, api.Pulse{Basis: 7}), spare(c.flight.Clicks, api.Click{Basis: 7})
		l, e := x[side].Begin(1, pulses, clicks)
		wantError(t, "Begin", e, api.OK)
		if whole := pulses[:cap(pulses)]; !slices.Equal(whole, append(slices.Clone(c.flight.Pulses), whole[len(pulses):]...)) || whole[len(pulses)].Basis != 7 {
			t.Error("pulses were changed")
		}
		if whole := clicks[:cap(clicks)]; !slices.Equal(whole, append(slices.Clone(c.flight.Clicks), whole[len(clicks):]...)) || whole[len(clicks)].Basis != 7 {
			t.Error("clicks were changed")
		}
		wreck(pulses, api.Pulse{})
		wreck(clicks, api.Click{})
		wreckLetters(l)
	}
	b.wreck()
	for len(c.under) > 0 {
		f := c.under[0]
		c.under = c.under[1:]
		l := f.Letter
		l.Words = spare(l.Words, 7)
		y := x[f.To]
		before := slices.Clone(l.Words[:cap(l.Words)])
		sent, e := y.Take(l)
		if e != api.OK || !slices.Equal(before, l.Words[:cap(l.Words)]) {
			t.Fatalf("Take: %d, words %v", e, short(l.Words))
		}
		wreck(l.Words, 9)
		c.take("the same", f.To, f.Letter)
		wreckLetters(sent)
		// It has kept the letter as it was, and its own answer.
		again, e := y.Take(f.Letter)
		want, _ := c.m[f.To].take(f.Letter)
		wantLetters(t, "the letter again", again, e, want, api.OK)
		wreckLetters(again)
		tick, _ := y.Copy().Tick()
		wreckLetters(tick)
		if !sameAsTwin(y, c.m[f.To]) {
			t.Fatal("another state")
		}
	}
	for side := range 2 {
		wantPhase(t, "the end", x[side], api.Ended, api.OK, 1)
	}
}

// R3: nil lists and empty ones are the same.
func TestNilIsEmpty(t *testing.T) {
	s := example()
	s.Head, s.Need, s.Sample, s.Limit = 0, 0, 0, api.Frac{Num: api.Nat{}, Den: api.Nat{1}}
	wantError(t, "Check", session.Check(s), api.OK)
	a, b := newPair(t, s, nil, nil, 1), newPair(t, s, []api.Rule{}, []bool{}, 1)
	start(t, a)
	start(t, b)
	if !samePair(a, b) {
		t.Error("a pair without a pool and one with an empty one are different")
	}
	for _, empty := range []bool{false, true} {
		c := newSession(t, s)
		for len(c.under) > 0 {
			f := c.under[0]
			c.under = c.under[1:]
			if len(f.Letter.Words) == 0 {
				f.Letter.Words = map[bool][]int{false: nil, true: {}}[empty]
			}
			c.take("a letter", f.To, f.Letter)
			if len(f.Letter.Words) == 0 {
				f.Letter.Words = map[bool][]int{true: nil, false: {}}[empty]
			}
			c.take("the letter again", f.To, f.Letter)
			if n := len(c.under); n > 1 {
				c.under = c.under[n-1:]
			}
		}
	}
	x, e := session.Bits(api.Letter{Session: 1, Kind: 1, Words: []int{}}, 8)
	y, e2 := session.Bits(api.Letter{Session: 1, Kind: 1}, 8)
	if !slices.Equal(x, y) || e != api.OK || e2 != api.OK {
		t.Errorf("Bits: %v, %d, %v, %d", x, e, y, e2)
	}
}

// R10: the same calls have the same results.
func TestSameAgain(t *testing.T) {
	run := func() *session.Pair {
		r := newRand()
		a := anyInputs()
		p := newPair(t, a.setup, a.rules, a.pool, 2)
		for range 800 {
			anyFate(r, p)
		}
		return p
	}
	if a, b := run(), run(); !samePair(a, b) || len(a.Station(0).Records()) == 0 {
		t.Error("the same calls have led to different pairs")
	}
}

// R5: the bits of a letter are new memory, and what is beyond the end of its words does not matter.
func TestBitsAreNew(t *testing.T) {
	l := api.Letter{Session: 1, Kind: 1, Words: spare([]int{5}, 9)}
	b, _ := session.Bits(l, 8)
	want := textOf(b)
	wreck(b, true)
	if b, _ := session.Bits(l, 8); textOf(b) != want || len(b) != 64 || l.Words[:2][1] != 9 {
		t.Errorf("Bits: %s, want %s", textOf(b), want)
	}
}
