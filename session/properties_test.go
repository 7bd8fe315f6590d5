package session_test

import (
	"fmt"
	"maps"
	"math/rand/v2"
	"slices"
	"testing"

	"waveplate/algebra"
	"waveplate/api"
	"waveplate/distil"
	"waveplate/optics"
	"waveplate/session"
)

// rough returns a setup with which wrong bits are often left, so that digests are what finds them.
func rough() api.Setup {
	s := example()
	s.Slots, s.Head, s.Need, s.Block, s.Sample = 200, 20, 0, 60, 8
	s.Eps, s.Limit, s.Width, s.Margin = frac(1, 2), frac(1, 2), 8, 0
	s.Plan = api.Cascade{Passes: 1, Block: 26}
	return s
}

// anyFate lets anything happen to a pair but that a letter is changed.
func anyFate(r *rand.Rand, p *session.Pair) {
	n := len(p.Flying())
	switch k := r.IntN(40); {
	case k < 2:
		p.Do(event(api.EventDrop, r.IntN(n+1)))
	case k < 5:
		p.Do(event(api.EventDouble, r.IntN(n+1)))
	case k < 10 || n == 0:
		p.Do(event(api.EventTick, r.IntN(2)))
	case k < 20:
		p.Do(event(api.EventDeliver, r.IntN(n)))
	default:
		p.Do(event(api.EventDeliver))
	}
	if rarely(r, 300) {
		p.Do(event(api.EventCrash, r.IntN(2)))
	}
	for side := range 2 {
		if rarely(r, 10) {
			p.Do(event(api.EventRestart, side))
		}
	}
	if n == 0 && rarely(r, 8) {
		p.Do(event(api.EventStart))
	}
}

// wantRecord fails unless a record has the length that it has to have, and the ledger of what was disclosed.
func wantRecord(t *testing.T, s api.Setup, x api.Record) {
	t.Helper()
	length, e := distil.Length(x.N, x.T, x.Ledger, s.Margin)
	if e != api.OK || len(x.Key) != length || length == 0 || len(x.Block) != s.Block-s.Sample || x.N > len(x.Block) || x.T > len(x.Block) {
		t.Errorf("session %d: a key of %d bits, want %d; N %d, T %d, block of %d bits", x.Session, len(x.Key), length, x.N, x.T, len(x.Block))
	}
	if hash, _ := distil.Of(x.Ledger, api.ItemHash); hash != s.Width || len(x.Ledger) != 2 || x.Ledger[0].Kind != api.ItemParity {
		t.Errorf("session %d: ledger %v", x.Session, x.Ledger)
	}
}

// wantEqualOrCollided fails unless both stations' records of a session are equal, or their blocks have the same digest by chance. It reports whether they have.
func wantEqualOrCollided(t *testing.T, s api.Setup, a, b api.Record) bool {
	t.Helper()
	if slices.Equal(a.Block, b.Block) {
		if !sameRecord(a, b) {
			t.Errorf("session %d: the blocks are equal, and the records are %v and %v", a.Session, a, b)
		}
		return false
	}
	_, _, key, _ := (&twin{s: s, last: a.Session}).publics()
	digest, _ := distil.Digest(s.Width, key, a.Block)
	wantError(t, fmt.Sprint("session ", a.Session, ": Confirm of the other block"), distil.Confirm(s.Width, key, b.Block, digest), api.OK)
	n, e := distil.Collisions(s.Width, a.Block, b.Block)
	words, _ := algebra.Words(s.Width, len(a.Block))
	if n < 1 || n > words || e != api.OK {
		t.Errorf("session %d: %d collisions, %d", a.Session, n, e)
	}
	return true
}

// P7.11, P7.12 (G1), P7.13 (G2): what both stations accept is equal, or one of the collisions that can be counted, whatever is lost, doubled or late, and whoever crashes.
func TestEqualKeys(t *testing.T) {
	r := newRand()
	both, collided, alone := 0, 0, 0
	for round := range 24 {
		s := rough()
		s.Seed = r.Uint64()
		p := newPair(t, s, []api.Rule{{Kind: api.RuleNoise, A: 14}}, randomBits(r, api.MaxBits), r.Uint64())
		if round%2 == 0 {
			for range 4000 {
				anyFate(r, p)
			}
		} else {
			for range 400 { // the pool is not long enough for more
				p.Do(event(api.EventStart))
				p.Settle(1000)
			}
		}
		records := map[int]api.Record{}
		x, y := p.Station(0).Records(), p.Station(1).Records()
		for _, a := range x {
			wantRecord(t, s, a)
			records[a.Session] = a
		}
		var want []int
		for _, b := range y {
			wantRecord(t, s, b)
			a, found := records[b.Session]
			if !found {
				t.Errorf("R has a key of the session %d, and S has none", b.Session)
				continue
			}
			both++
			if wantEqualOrCollided(t, s, a, b) {
				want = append(want, b.Session)
			}
		}
		alone += len(x) - len(y)
		collided += len(want)
		if got := p.Collided(); !slices.Equal(got, want) {
			t.Errorf("collided: %v, want %v", got, want)
		}
	}
	if both < 500 || collided < 2 || alone < 2 {
		t.Errorf("%d keys, %d of them collided, and %d that S alone has", both, collided, alone)
	}
}

// P7.14 (G4): a sample with more errors than the limit permits yields no key.
func TestThreshold(t *testing.T) {
	r := newRand()
	noisy, quiet := 0, 0
	for round := range 300 {
		s := example()
		s.Seed, s.Limit, s.Sample = r.Uint64(), oneOf(r, []api.Frac{frac(0, 1), frac(1, 20), frac(1, 10), frac(3, 20)}), 40
		light, rules := r.Uint64(), []api.Rule{{Kind: api.RuleNoise, A: r.IntN(40)}, {Kind: api.RuleShift, A: 1 + r.IntN(5), B: 1}}
		p := newPair(t, s, rules, examplePool, light)
		start(t, p)
		if p.Station(0).Reason() == api.ErrSync {
			continue
		}
		seen := sampleErrors(s, p.Flight())
		what := fmt.Sprintf("round %d: %d of 40 wrong, limit %v", round, seen, s.Limit)
		if uint32(seen)*s.Limit.Den[0] > 40*s.Limit.Num[0] {
			wantBoth(t, what, p, api.Stopped, api.ErrNoise, 0)
			noisy++
		} else if x := p.Station(0); x.Reason() == api.ErrNoise {
			t.Errorf("%s: phase %d, reason %d", what, x.Phase(), x.Reason())
		} else {
			quiet++
		}
	}
	if noisy < 50 || quiet < 50 {
		t.Errorf("%d samples with too many errors, %d others", noisy, quiet)
	}
}

// sampleErrors returns how many bits of the sample of the session 1 are wrong.
func sampleErrors(s api.Setup, f api.Flight) int {
	same, wrong, _ := optics.Agree(f.Pulses, f.Clicks, f.Shift)
	same = slices.DeleteFunc(same, func(slot int) bool { return slot < s.Head })
	seen := 0
	for _, i := range drawnSample(s, 1) {
		if slices.Contains(wrong, same[i]) {
			seen++
		}
	}
	return seen
}

// P7.15 (G6): a number is that of one letter; a letter with another tag is refused, and changes nothing.
func TestNumbers(t *testing.T) {
	r := newRand()
	met := tally{}
	for range 40 {
		s := rough()
		p := newPair(t, s, nil, randomBits(r, 6000), r.Uint64())
		sent := map[int]api.Letter{}
		for range 200 {
			anyFate(r, p)
			l := p.Flying()
			for _, f := range l {
				if l, found := sent[f.Letter.Number]; found && !sameLetter(l, f.Letter) {
					t.Fatalf("two letters with one number: %s", showLetters([]api.Letter{l, f.Letter}))
				}
				sent[f.Letter.Number] = f.Letter
			}
			if len(l) > 0 {
				met.add(wantTagRefused(t, p, r.IntN(len(l)), r.IntN(s.Width)))
			}
		}
		used := append(p.Station(0).Used(), p.Station(1).Used()...)
		slices.Sort(used)
		if l := slices.Sorted(maps.Keys(sent)); !slices.Equal(slices.Compact(used), l) {
			t.Errorf("used %v, sent %v", used, l)
		}
	}
	met.wantAll(t, "11", "15", "16", "13")
}

// wantTagRefused fails unless a letter under way is refused if one bit of its tag is changed; it returns the error.
func wantTagRefused(t *testing.T, p *session.Pair, at, bit int) api.Errno {
	t.Helper()
	f := p.Flying()[at]
	x := p.Station(f.To)
	before := x.Copy()
	f.Letter.Tag ^= 1 << bit
	l, e := x.Take(f.Letter)
	if len(l) != 0 || !slices.Contains([]api.Errno{api.ErrTag, api.ErrOld, api.ErrState, api.ErrDown}, e) || (e == api.ErrDown) != (x.Phase() == api.Down) || !sameState(x, before) {
		t.Errorf("a letter with another tag: %s, %d", showLetters(l), e)
	}
	return e
}

// P7.15: changed letters of which the pair lets the tag or a word be another one do not lead to other keys.
func TestBentLetters(t *testing.T) {
	r := newRand()
	refused := 0
	for range 60 {
		s := example()
		s.Tries = 100
		p := newPair(t, s, nil, drawnBits(r.Uint64(), 20000), 2)
		do(t, p, api.OK, api.EventStart)
		for p.Station(0).Phase() == api.Busy || p.Station(1).Phase() == api.Busy {
			if len(p.Flying()) == 0 {
				do(t, p, api.OK, api.EventTick, 0)
				do(t, p, api.OK, api.EventTick, 1)
			}
			if rarely(r, 4) {
				do(t, p, api.OK, api.EventBend, 0, r.IntN(4)-1)
				before := p.Copy()
				if e := p.Do(event(api.EventDeliver)); e != api.ErrTag && e != api.ErrOld && e != api.ErrState {
					t.Fatalf("a bent letter: %d", e)
				}
				if !sameState(before.Station(0), p.Station(0)) || !sameState(before.Station(1), p.Station(1)) {
					t.Fatal("a bent letter has changed a station")
				}
				refused++
				continue
			}
			p.Do(event(api.EventDeliver))
		}
		wantBoth(t, "the end", p, api.Ended, api.OK, 1)
		if x := p.Station(0).Records()[0]; textOf(x.Key) != knownSessions()[0].key {
			t.Errorf("the key is %s", textOf(x.Key))
		}
	}
	if refused < 100 {
		t.Errorf("%d letters were refused", refused)
	}
}

// P7.16: doubled letters, of which each copy is delivered later, change no record.
func TestDoubledLetters(t *testing.T) {
	r := newRand()
	for round := range 60 {
		s := anySetup(r)
		rules, pool, light := anyRules(r), randomBits(r, min(2*s.Width*900, api.MaxBits)), r.Uint64()
		p, q := newPair(t, s, rules, pool, light), newPair(t, s, rules, pool, light)
		doubled := 0
		for range 2 {
			start(t, p)
			do(t, q, api.OK, api.EventStart)
			for n := len(q.Flying()); n > 0; n = len(q.Flying()) {
				if n < 30 && rarely(r, 2) && doubled < 300 {
					do(t, q, api.OK, api.EventDouble, r.IntN(n))
					doubled++
				}
				q.Do(event(api.EventDeliver, r.IntN(len(q.Flying()))))
			}
		}
		for side := range 2 {
			if a, b := p.Station(side), q.Station(side); !sameState(a, b) {
				t.Errorf("round %d: phase %d, %d records, with doubled letters %d, %d", round, a.Phase(), len(a.Records()), b.Phase(), len(b.Records()))
			}
		}
	}
}

// P7.17: a session ends if nothing is lost; and if anything is, it ends behind some ticks.
func TestEnds(t *testing.T) {
	r := newRand()
	ends := tally{}
	for round := range 150 {
		s := anySetup(r)
		p := newPair(t, s, anyRules(r), randomBits(r, min(2*s.Width*900, api.MaxBits)), r.Uint64())
		start(t, p)
		a, b := p.Station(0), p.Station(1)
		if a.Phase() != b.Phase() || a.Reason() != b.Reason() || len(a.Records()) != len(b.Records()) || (a.Phase() == api.Ended) != (len(a.Records()) == 1) {
			t.Errorf("round %d: phases %d, %d, reasons %d, %d, records %d, %d", round, a.Phase(), b.Phase(), a.Reason(), b.Reason(), len(a.Records()), len(b.Records()))
		}
		ends.add(a.Phase())

		do(t, p, api.OK, api.EventStart)
		for range r.IntN(60) {
			anyFate(r, p)
		}
		for len(p.Flying()) > 0 {
			do(t, p, api.OK, api.EventDrop)
		}
		for range s.Tries + 1 {
			for side := range 2 {
				p.Do(event(api.EventTick, side))
			}
		}
		for side := range 2 {
			if x := p.Station(side); x.Phase() == api.Busy {
				t.Errorf("round %d: the station %d is busy", round, side)
			} else {
				ends.add("lost: ", x.Phase())
			}
		}
	}
	ends.wantAll(t, "2", "3", "lost: 2", "lost: 3")
}

// P7.18: a crash takes away no record and no used number, and a new session can be started behind it.
func TestCrashes(t *testing.T) {
	r := newRand()
	for round := range 60 {
		p := newPair(t, example(), nil, drawnBits(r.Uint64(), 30000), r.Uint64())
		do(t, p, api.OK, api.EventStart)
		p.Settle(r.IntN(40))
		before := p.Copy()
		for side := range 2 {
			if round%3 == 2 || round%3 == side {
				do(t, p, api.OK, api.EventCrash, side)
			}
		}
		for side := range 2 {
			a, b := before.Station(side), p.Station(side)
			if !sameRecords(a.Records(), b.Records()) || !slices.Equal(a.Used(), b.Used()) || a.Session() != b.Session() {
				t.Errorf("round %d: a crash has taken away something of the station %d", round, side)
			}
		}
		p.Settle(1000)
		for side := range 2 {
			p.Do(event(api.EventRestart, side))
		}
		records := len(p.Station(0).Records())
		start(t, p)
		wantPhase(t, "S behind crashes", p.Station(0), api.Ended, api.OK, records+1)
		if x := p.Station(1).Records(); x[len(x)-1].Session != 2 {
			t.Errorf("round %d: the last record is of the session %d", round, x[len(x)-1].Session)
		}
	}
}
