package session_test

import (
	"fmt"
	"math"
	"math/rand/v2"
	"slices"
	"strings"
	"testing"

	"waveplate/api"
	"waveplate/session"
)

// edgeInts are numbers around the limits, and the greatest and least of their type.
var edgeInts = []int{math.MinInt, math.MinInt + 1, -513, -2, -1, 0, 1, 2, 3, 4, 5, 7, 8, 9, 11, 12, 16, 22, 23, 63, 64, 65, 100, 101, 511, 512, 513, 999, 1000, 1001, 4000, 4001, 4096, 4097, 65535, 65536, 1 << 32, math.MaxInt - 1, math.MaxInt}

func newRand() *rand.Rand { return rand.New(rand.NewPCG(13, 14)) }

// oneOf returns any element of a list.
func oneOf[T any](r *rand.Rand, l []T) T { return l[r.IntN(len(l))] }

// rarely reports true in one of n cases.
func rarely(r *rand.Rand, n int) bool { return r.IntN(n) == 0 }

func randomBits(r *rand.Rand, n int) []bool {
	b := make([]bool, n)
	for i := range b {
		b[i] = r.IntN(2) == 1
	}
	return b
}

// bitsOf returns the bit string with a text.
func bitsOf(s string) []bool {
	b := make([]bool, len(s))
	for i := range s {
		b[i] = s[i] == '1'
	}
	return b
}

// textOf returns the text of a bit string.
func textOf(b []bool) string {
	var s strings.Builder
	for _, bit := range b {
		if bit {
			s.WriteByte('1')
		} else {
			s.WriteByte('0')
		}
	}
	return s.String()
}

// frac returns the fraction n / d.
func frac(n, d uint32) api.Frac { return api.Frac{Num: api.Nat{n}, Den: api.Nat{d}} }

// example returns the setup of the chapter's examples.
func example() api.Setup {
	return api.Setup{
		Optics: api.Optics{Kind: api.Prepare, Classes: [3]int{0, 0, 256}, Photons: [3][4]int{{256}, {256}, {0, 256}}, Eta: 256},
		Slots:  500, Head: 80, Need: 5, Block: 140, Sample: 40,
		Eps: frac(1, 4), Limit: frac(0, 1),
		Plan:  api.Cascade{Passes: 2, Block: 16},
		Width: 16, Margin: 4, Tries: 3, Seed: 1,
	}
}

// examplePool is the pool of the chapter's examples.
var examplePool = make([]bool, 8192)

// decoys returns an arrangement with decoys, to which it is suited.
func decoys() api.Optics {
	return api.Optics{Kind: api.Decoy, Classes: [3]int{30, 80, 146}, Photons: [3][4]int{{256}, {128, 126, 2}, {60, 160, 32, 4}}, Eta: 256}
}

// withDecoys returns a setup with decoys.
func withDecoys() api.Setup {
	s := example()
	s.Optics = decoys()
	s.Slots, s.Block, s.Sample = 2400, 240, 40
	s.Limit, s.Eps = frac(1, 8), frac(1, 2)
	return s
}

// anyOptics returns an arrangement of any kind.
func anyOptics(r *rand.Rand) api.Optics {
	o := example().Optics
	switch r.IntN(4) {
	case 0:
		o = decoys()
	case 1:
		o.Kind, o.Photons[api.Signal] = api.Pairs, [4]int{20, 200, 36}
	case 2:
		o.Photons[api.Signal] = [4]int{10, 200, 40, 6}
	}
	o.Eta, o.Dark = 256-r.IntN(40), oneOf(r, []int{0, 0, 3})
	return o
}

// anySetup returns a valid setup, of which most lead to keys.
func anySetup(r *rand.Rand) api.Setup {
	s := api.Setup{
		Optics: anyOptics(r),
		Head:   20 + r.IntN(20), Need: oneOf(r, []int{0, 2, 3, 5}),
		Block: 60 + r.IntN(80),
		Eps:   frac(1, uint32(2+r.IntN(3))), Limit: oneOf(r, []api.Frac{frac(0, 1), frac(1, 8), frac(1, 4), frac(2, 1)}),
		Plan:  api.Cascade{Passes: 1 + r.IntN(3), Block: 4 + r.IntN(30), Seed: r.Uint64()},
		Width: oneOf(r, []int{8, 8, 16, 32}), Margin: r.IntN(5), Tries: 1 + r.IntN(4), Seed: r.Uint64(),
	}
	s.Sample = 15 + r.IntN(20)
	s.Slots = s.Head + 3*s.Block + r.IntN(100)
	if s.Optics.Kind == api.Decoy {
		s.Block, s.Slots = s.Block+140, 3000
	}
	if rarely(r, 10) {
		s.Head, s.Need = 0, 0
	}
	if rarely(r, 20) {
		s.Sample = 0
	}
	return s
}

// anyRules returns a channel that is not too bad.
func anyRules(r *rand.Rand) []api.Rule {
	var l []api.Rule
	if rarely(r, 2) {
		l = append(l, api.Rule{Kind: api.RuleLoss, A: r.IntN(30)})
	}
	if rarely(r, 2) {
		l = append(l, api.Rule{Kind: api.RuleNoise, A: r.IntN(12)})
	}
	if rarely(r, 2) {
		late := r.IntN(2)
		l = append(l, api.Rule{Kind: api.RuleShift, A: late + r.IntN(api.MaxShift), B: late})
	}
	if rarely(r, 6) {
		l = append(l, api.Rule{Kind: api.RuleResend, From: 20, To: 300, A: r.IntN(100)})
	}
	if rarely(r, 6) {
		l = append(l, api.Rule{Kind: api.RuleSplit, From: 0, To: 4000})
	}
	return l
}

// anyPool returns bits of a pool that is long enough for several sessions, or, in some cases, too short for one.
func anyPool(r *rand.Rand, width int) []bool {
	n := 400 + r.IntN(200)
	if rarely(r, 4) {
		n = r.IntN(30)
	}
	return randomBits(r, min(2*width*n+r.IntN(2*width), api.MaxBits))
}

// newStation returns a station, and fails with an error.
func newStation(t *testing.T, s api.Setup, side int, pool []bool) *session.Station {
	t.Helper()
	x, e := session.NewStation(s, side, pool)
	if e != api.OK {
		t.Fatalf("NewStation: %d", e)
	}
	return x
}

// newPair returns a pair, and fails with an error.
func newPair(t *testing.T, s api.Setup, rules []api.Rule, pool []bool, light uint64) *session.Pair {
	t.Helper()
	p, e := session.NewPair(s, rules, pool, light)
	if e != api.OK {
		t.Fatalf("NewPair: %d", e)
	}
	return p
}

// examplePair returns the pair of the chapter's examples, with some rules.
func examplePair(t *testing.T, rules ...api.Rule) *session.Pair {
	t.Helper()
	return newPair(t, example(), rules, examplePool, 2)
}

// event returns an event, to write it in a short way.
func event(kind int, args ...int) api.Event {
	e := api.Event{Kind: kind}
	if len(args) > 0 {
		e.A = args[0]
	}
	if len(args) > 1 {
		e.B = args[1]
	}
	return e
}

// do lets an event happen, and fails unless it returns this error.
func do(t *testing.T, p *session.Pair, err api.Errno, kind int, args ...int) {
	t.Helper()
	if e := p.Do(event(kind, args...)); e != err {
		t.Fatalf("event %d %v: %d, want %d", kind, args, e, err)
	}
}

// settle delivers all letters.
func settle(t *testing.T, p *session.Pair) {
	t.Helper()
	if n, e := p.Settle(100000); e != api.OK || n == 100000 || len(p.Flying()) > 0 {
		t.Fatalf("Settle: %d, %d, %d letters", n, e, len(p.Flying()))
	}
}

// start begins a session, and delivers all letters.
func start(t *testing.T, p *session.Pair) {
	t.Helper()
	do(t, p, api.OK, api.EventStart)
	settle(t, p)
}

// wantPhase fails unless a station has this phase and reason, and so many records.
func wantPhase(t *testing.T, what string, x *session.Station, phase int, reason api.Errno, records int) {
	t.Helper()
	if x.Phase() != phase || x.Reason() != reason || len(x.Records()) != records {
		t.Errorf("%s: phase %d, reason %d, %d records, want %d, %d, %d", what, x.Phase(), x.Reason(), len(x.Records()), phase, reason, records)
	}
}

// wantBoth fails unless both stations of a pair have this phase and reason, and so many records.
func wantBoth(t *testing.T, what string, p *session.Pair, phase int, reason api.Errno, records int) {
	t.Helper()
	for side := range 2 {
		wantPhase(t, fmt.Sprint(what, ", station ", side), p.Station(side), phase, reason, records)
	}
}

func sameLetter(a, b api.Letter) bool {
	return a.Session == b.Session && a.Kind == b.Kind && a.Number == b.Number && a.Tag == b.Tag && slices.Equal(a.Words, b.Words)
}

func sameLetters(a, b []api.Letter) bool { return slices.EqualFunc(a, b, sameLetter) }

func sameFlying(a, b []api.Flying) bool {
	return slices.EqualFunc(a, b, func(x, y api.Flying) bool { return x.To == y.To && sameLetter(x.Letter, y.Letter) })
}

func sameRecord(a, b api.Record) bool {
	return a.Session == b.Session && a.N == b.N && a.T == b.T && slices.Equal(a.Block, b.Block) && slices.Equal(a.Ledger, b.Ledger) && slices.Equal(a.Key, b.Key)
}

func sameRecords(a, b []api.Record) bool { return slices.EqualFunc(a, b, sameRecord) }

func sameFlight(a, b api.Flight) bool {
	return a.Shift == b.Shift && slices.Equal(a.Pulses, b.Pulses) && slices.Equal(a.Clicks, b.Clicks) && slices.Equal(a.Notes, b.Notes)
}

// sameState reports whether nothing of two stations that can be seen is different.
func sameState(a, b *session.Station) bool {
	return a.Phase() == b.Phase() && a.Session() == b.Session() && a.Reason() == b.Reason() && sameRecords(a.Records(), b.Records()) && slices.Equal(a.Used(), b.Used())
}

// samePair reports whether nothing of two pairs that can be seen is different.
func samePair(a, b *session.Pair) bool {
	return sameState(a.Station(0), b.Station(0)) && sameState(a.Station(1), b.Station(1)) && sameFlying(a.Flying(), b.Flying()) && sameFlight(a.Flight(), b.Flight()) && slices.Equal(a.Collided(), b.Collided())
}

// showLetters returns letters in a short form, for messages.
func showLetters(l []api.Letter) string {
	var s []string
	for _, x := range l {
		s = append(s, fmt.Sprintf("{session %d, kind %d, number %d, words %s, tag %d}", x.Session, x.Kind, x.Number, short(x.Words), x.Tag))
	}
	return "[" + strings.Join(s, " ") + "]"
}

// wantError fails unless a call gave this error.
func wantError(t *testing.T, what string, e, err api.Errno) {
	t.Helper()
	if e != err {
		t.Errorf("%s: %d, want %d", what, e, err)
	}
}

// wantLetters fails unless a call gave these letters and this error.
func wantLetters(t *testing.T, what string, got []api.Letter, e api.Errno, letters []api.Letter, err api.Errno) {
	t.Helper()
	if e != err || !sameLetters(got, letters) {
		t.Errorf("%s: %s, %d, want %s, %d", what, showLetters(got), e, showLetters(letters), err)
	}
}

// short returns the beginning of a list, for messages.
func short[T any](l []T) string {
	const most = 30
	var parts []string
	for i, x := range l {
		if i == most {
			parts = append(parts, "..")
			break
		}
		parts = append(parts, fmt.Sprint(x))
	}
	return "[" + strings.Join(parts, " ") + "]"
}

// tally counts what a test has met.
type tally map[string]int

func (c tally) add(what ...any) { c[fmt.Sprint(what...)]++ }

// wantAll fails unless each of these was met several times.
func (c tally) wantAll(t *testing.T, l ...string) {
	t.Helper()
	for _, x := range l {
		if c[x] < 5 {
			t.Errorf("%q was met %d times", x, c[x])
		}
	}
}
