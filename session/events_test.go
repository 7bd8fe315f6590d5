package session_test

import (
	"fmt"
	"math/rand/v2"
	"slices"
	"testing"

	"waveplate/api"
	"waveplate/session"
)

// sameAsTwin reports whether nothing of a station that can be seen is different from its twin.
func sameAsTwin(x *session.Station, m *twin) bool {
	return x.Phase() == m.phase && x.Session() == m.last && x.Reason() == m.reason && sameRecords(x.Records(), m.records) && slices.Equal(x.Used(), m.usedNumbers())
}

// wantTwins fails unless nothing of a pair that can be seen is different from that of the twins.
func wantTwins(t *testing.T, what string, p *session.Pair, m *twins) {
	t.Helper()
	for side := range 2 {
		x := p.Station(side)
		if !sameAsTwin(x, m.x[side]) {
			t.Fatalf("%s: station %d: phase %d, session %d, reason %d, %d records, used %v, want %d, %d, %d, %d, %v", what, side, x.Phase(), x.Session(), x.Reason(), len(x.Records()), x.Used(), m.x[side].phase, m.x[side].last, m.x[side].reason, len(m.x[side].records), m.x[side].usedNumbers())
		}
	}
	if got := p.Flying(); !sameFlying(got, m.under) {
		t.Fatalf("%s: under way are %v, want %v", what, got, m.under)
	}
	if got := p.Collided(); !slices.Equal(got, m.collided()) {
		t.Fatalf("%s: collided are %v, want %v", what, got, m.collided())
	}
}

// anyEvent returns an event, of which most deliver letters, if there are any.
func anyEvent(r *rand.Rand, flying int) api.Event {
	at := r.IntN(flying + 1)
	if flying == 0 && !rarely(r, 3) {
		switch n := r.IntN(12); {
		case n < 9:
			return event(api.EventTick, r.IntN(2))
		case n < 11:
			return event(api.EventStart)
		}
		return event(oneOf(r, []int{api.EventCrash, api.EventRestart}), r.IntN(2))
	}
	switch n := r.IntN(100); {
	case n < 5:
		return event(api.EventTick, r.IntN(2))
	case n < 13:
		return event(api.EventDouble, at)
	case n < 15:
		return event(api.EventDrop, at)
	case n < 17:
		return event(api.EventBend, at, oneOf(r, []int{0, 1, r.IntN(40), -1, 1000}))
	case n < 18:
		return oneOf(r, []api.Event{event(api.EventStart), event(api.EventCrash, 0), event(api.EventCrash, 1), event(api.EventRestart, r.IntN(2))})
	case n < 19:
		return event(oneOf(r, edgeInts), oneOf(r, edgeInts), oneOf(r, edgeInts))
	case n < 20:
		return event(2+r.IntN(7), oneOf(r, edgeInts), oneOf(r, edgeInts))
	case n < 60:
		return event(api.EventDeliver, at)
	}
	return event(api.EventDeliver)
}

// kindOrNone returns the kind of an event, or 0 for all kinds that are none.
func kindOrNone(kind int) int {
	if kind < 1 || kind > 8 {
		return 0
	}
	return kind
}

// P7.3 to P7.11: any events have the same results as with the second writing.
func TestAnyEvents(t *testing.T) {
	r := newRand()
	met := tally{}
	for round := range 300 {
		s := anySetup(r)
		rules, pool, light := anyRules(r), anyPool(r, s.Width), r.Uint64()
		p, m := newPair(t, s, rules, pool, light), newTwins(s, rules, pool, light)
		for step := range 150 {
			what := fmt.Sprintf("round %d, step %d", round, step)
			e := anyEvent(r, len(m.under))
			if step == 0 {
				e = event(api.EventStart)
			}
			kind := oneOf(r, []string{"settle", "event", "event", "event", "event", "event"})
			if kind == "settle" && step > 0 {
				wantSettled(t, what, p, m, r.IntN(30))
				continue
			}
			err := m.do(e)
			met.add("event ", kindOrNone(e.Kind), ", ", err)
			wantError(t, fmt.Sprintf("%s: event %v", what, e), p.Do(e), err)
			wantTwins(t, fmt.Sprintf("%s: event %v", what, e), p, m)
			for _, x := range m.x {
				met.add("phase ", x.phase, ", ", x.reason)
			}
		}
		for range m.x[0].records {
			met.add("record, source ", s.Optics.Kind)
		}
		if !sameFlight(p.Flight(), m.flight) {
			t.Fatalf("round %d: another flight", round)
		}
	}
	met.wantAll(t, "event 1, 0", "event 1, 13", "event 2, 0", "event 2, 3", "event 2, 11", "event 2, 13", "event 2, 15", "event 2, 16", "event 3, 0", "event 3, 3", "event 4, 0", "event 4, 3", "event 5, 0", "event 5, 3", "event 6, 0", "event 6, 3", "event 6, 13", "event 7, 0", "event 7, 3", "event 7, 13", "event 8, 0", "event 8, 3", "event 8, 11", "event 0, 2",
		"phase 0, 0", "phase 1, 0", "phase 2, 0", "phase 3, 9", "phase 3, 14", "phase 3, 17", "phase 3, 18", "phase 3, 22", "phase 4, 0", "record, source 0", "record, source 1", "record, source 2")
	t.Log(met)
}

// wantSettled lets some letters be delivered.
func wantSettled(t *testing.T, what string, p *session.Pair, m *twins, most int) {
	t.Helper()
	n := 0
	for ; n < most && len(m.under) > 0; n++ {
		m.do(event(api.EventDeliver))
	}
	if got, e := p.Settle(most); got != n || e != api.OK {
		t.Fatalf("%s: Settle of %d: %d, %d, want %d", what, most, got, e, n)
	}
	wantTwins(t, what, p, m)
}
