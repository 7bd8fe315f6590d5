package optics_test

import (
	"fmt"
	"math"
	"math/rand/v2"
	"slices"
	"strings"
	"testing"

	"waveplate/api"
)

// edgeInts are numbers around the limits, and the greatest and least of their type.
var edgeInts = []int{math.MinInt, -4097, -257, -17, -16, -1, 0, 1, 2, 3, 4, 15, 16, 17, 255, 256, 257, 4095, 4096, 4097, math.MaxInt}

func newRand() *rand.Rand { return rand.New(rand.NewPCG(5, 6)) }

// dark is the row of a class without photons.
var dark = [4]int{256}

// plain returns an arrangement with one photon in each pulse, and perfect detectors.
func plain() api.Optics {
	return api.Optics{Kind: api.Prepare, Classes: [3]int{0, 0, 256}, Photons: [3][4]int{dark, dark, {0, 256}}, Eta: 256}
}

// decoys returns an arrangement with three classes, and detectors that fail.
func decoys() api.Optics {
	return api.Optics{Kind: api.Decoy, Classes: [3]int{50, 70, 136}, Photons: [3][4]int{dark, {150, 60, 30, 16}, {60, 80, 60, 56}}, Eta: 180, Dark: 40}
}

// pairs returns an arrangement with pairs of photons.
func pairs() api.Optics {
	return api.Optics{Kind: api.Pairs, Classes: [3]int{0, 0, 256}, Photons: [3][4]int{dark, dark, {40, 120, 60, 36}}, Eta: 150, Dark: 20}
}

// randomRow returns weights with the sum 256, many of which are 0.
func randomRow(r *rand.Rand, n int) []int {
	row := make([]int, n)
	left := 256
	for i := range n - 1 {
		switch r.IntN(4) {
		case 0:
		case 1:
			row[i] = left
		default:
			row[i] = r.IntN(left + 1)
		}
		left -= row[i]
	}
	row[n-1] = left
	return row
}

// randomPart returns a part of 256, often one of the ends.
func randomPart(r *rand.Rand) int {
	if r.IntN(3) == 0 {
		return 256 * r.IntN(2)
	}
	return r.IntN(257)
}

// randomOptics returns any valid arrangement.
func randomOptics(r *rand.Rand) api.Optics {
	o := api.Optics{Kind: r.IntN(3), Classes: [3]int{0, 0, 256}, Photons: [3][4]int{dark, dark, [4]int(randomRow(r, 4))}, Eta: randomPart(r), Dark: randomPart(r)}
	if o.Kind == api.Decoy {
		o.Classes = [3]int(randomRow(r, 3))
		o.Photons[api.Weak] = [4]int(randomRow(r, 4))
	}
	return o
}

// randomRule returns a valid rule of one of these kinds, for slots that are often among the first n.
func randomRule(r *rand.Rand, n int, kinds ...int) api.Rule {
	x := api.Rule{Kind: kinds[r.IntN(len(kinds))]}
	if x.Kind >= api.RuleResend {
		x.From = r.IntN(n)
		x.To = x.From + r.IntN(n)
	}
	switch x.Kind {
	case api.RuleLoss, api.RuleNoise, api.RuleResend, api.RuleStarve:
		x.A = randomPart(r)
	case api.RuleShift:
		x.B = r.IntN(2)
		x.A = x.B + r.IntN(17-x.B)
	case api.RuleBlind:
		x.A, x.B = r.IntN(2), r.IntN(2)
	}
	return x
}

var allKinds = []int{api.RuleLoss, api.RuleNoise, api.RuleShift, api.RuleResend, api.RuleSplit, api.RuleStarve, api.RuleBlind}

// randomRules returns a channel of rules of these kinds.
func randomRules(r *rand.Rand, most, n int, kinds ...int) []api.Rule {
	var l []api.Rule
	for range r.IntN(most + 1) {
		x := randomRule(r, n, kinds...)
		if x.Kind != api.RuleShift || !slices.ContainsFunc(l, func(y api.Rule) bool { return y.Kind == api.RuleShift }) {
			l = append(l, x)
		}
	}
	return l
}

// randomPulses returns any valid pulses.
func randomPulses(r *rand.Rand, n int) []api.Pulse {
	l := make([]api.Pulse, n)
	for i := range l {
		l[i] = api.Pulse{Basis: r.IntN(2), Bit: r.IntN(2) == 1, Class: r.IntN(3), Photons: r.IntN(4), Seen: r.IntN(4) > 0}
	}
	return l
}

// randomLight returns any valid light.
func randomLight(r *rand.Rand, n int) []api.Light {
	l := make([]api.Light, n)
	for i := range l {
		l[i] = api.Light{Photons: r.IntN(4), Basis: r.IntN(2), Bit: r.IntN(2) == 1, Bright: r.IntN(4) == 0}
	}
	return l
}

// randomClicks returns any valid clicks.
func randomClicks(r *rand.Rand, n int) []api.Click {
	l := make([]api.Click, n)
	for i := range l {
		l[i] = api.Click{Basis: r.IntN(2), Kind: r.IntN(4)}
	}
	return l
}

// randomNotes returns any valid notes for n slots.
func randomNotes(r *rand.Rand, count, n int) []api.Note {
	l := make([]api.Note, count)
	for i := range l {
		l[i] = api.Note{Slot: r.IntN(n), How: 1 + r.IntN(3), Basis: r.IntN(2), Bit: r.IntN(2) == 1}
	}
	return l
}

// want fails unless a call gave this list and error.
func want[T comparable](t *testing.T, what string, got []T, e api.Errno, list []T, err api.Errno) {
	t.Helper()
	if e != err || !slices.Equal(got, list) {
		t.Errorf("%s: %s, %d, want %s, %d", what, short(got), e, short(list), err)
	}
}

// wantOne fails unless a call gave this value and error.
func wantOne[T comparable](t *testing.T, what string, got T, e api.Errno, value T, err api.Errno) {
	t.Helper()
	if e != err || got != value {
		t.Errorf("%s: %v, %d, want %v, %d", what, got, e, value, err)
	}
}

// wantFlight fails unless a call gave this flight and error.
func wantFlight(t *testing.T, what string, got api.Flight, e api.Errno, f api.Flight, err api.Errno) {
	t.Helper()
	want(t, what+", pulses", got.Pulses, e, f.Pulses, err)
	want(t, what+", clicks", got.Clicks, e, f.Clicks, err)
	want(t, what+", notes", got.Notes, e, f.Notes, err)
	wantOne(t, what+", shift", got.Shift, e, f.Shift, err)
}

// done returns the value of a call that has to succeed.
func done[T any](t *testing.T) func(x T, e api.Errno) T {
	return func(x T, e api.Errno) T {
		t.Helper()
		if e != api.OK {
			t.Fatalf("the error %d", e)
		}
		return x
	}
}

// short returns the beginning of a list, for messages.
func short[T any](l []T) string {
	const most = 20
	var parts []string
	for i, x := range l {
		if i == most {
			parts = append(parts, "..")
			break
		}
		parts = append(parts, fmt.Sprint(x))
	}
	return "[" + strings.Join(parts, " ") + "]"
}

// edits returns all texts that a byte less, a byte more or another byte makes of a text.
func edits(s string) []string {
	var l []string
	for i := range len(s) + 1 {
		for _, c := range " 0123456789+-_.x\n\r\t\x00" {
			l = append(l, s[:i]+string(c)+s[i:])
			if i < len(s) {
				l = append(l, s[:i]+string(c)+s[i+1:])
			}
		}
		if i < len(s) {
			l = append(l, s[:i]+s[i+1:], s[:i]+strings.ToUpper(s[i:i+1])+s[i+1:])
		}
	}
	return l
}
