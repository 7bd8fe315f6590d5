package sift_test

import (
	"fmt"
	"math"
	"math/big"
	"math/rand/v2"
	"slices"
	"strings"
	"testing"

	"waveplate/api"
	"waveplate/exact"
)

// edgeInts are numbers around the limits, and the greatest and least of their type.
var edgeInts = []int{math.MinInt, math.MinInt + 1, -4097, -513, -17, -16, -15, -3, -2, -1, 0, 1, 2, 3, 4, 15, 16, 17, 511, 512, 513, 4095, 4096, 4097, 1 << 32, math.MaxInt - 1, math.MaxInt}

func newRand() *rand.Rand { return rand.New(rand.NewPCG(7, 8)) }

// oneOf returns any element of a list.
func oneOf[T any](r *rand.Rand, l []T) T { return l[r.IntN(len(l))] }

// rarely reports true in one of n cases.
func rarely(r *rand.Rand, n int) bool { return r.IntN(n) == 0 }

// orEdge returns n, or in one of a few cases any edge.
func orEdge(r *rand.Rand, n int) int {
	if rarely(r, 8) {
		return oneOf(r, edgeInts)
	}
	return n
}

// randomPulses returns any valid pulses.
func randomPulses(r *rand.Rand, n int) []api.Pulse {
	l := make([]api.Pulse, n)
	for i := range l {
		l[i] = api.Pulse{Basis: r.IntN(2), Bit: r.IntN(2) == 1, Class: r.IntN(3), Photons: r.IntN(4), Seen: r.IntN(4) > 0}
	}
	return l
}

// randomClicks returns any valid clicks.
func randomClicks(r *rand.Rand, n int) []api.Click {
	l := make([]api.Click, n)
	for i := range l {
		l[i] = api.Click{Basis: r.IntN(2), Kind: r.IntN(4)}
	}
	return l
}

// randomNotes returns any valid notes for n slots.
func randomNotes(r *rand.Rand, count, n int) []api.Note {
	l := make([]api.Note, count)
	for i := range l {
		l[i] = api.Note{Slot: r.IntN(n), How: 1 + r.IntN(3), Basis: r.IntN(2), Bit: r.IntN(2) == 1}
	}
	return l
}

func randomBits(r *rand.Rand, n int) []bool {
	b := make([]bool, n)
	for i := range b {
		b[i] = r.IntN(2) == 1
	}
	return b
}

// wrongPulses returns one pulse for each fault of a pulse.
func wrongPulses() []api.Pulse {
	var l []api.Pulse
	for _, n := range edgeInts {
		if n < 0 || n > 1 {
			l = append(l, api.Pulse{Basis: n, Seen: true})
		}
		if n < 0 || n > 2 {
			l = append(l, api.Pulse{Class: n, Seen: true})
		}
		if n < 0 || n > 3 {
			l = append(l, api.Pulse{Photons: n, Seen: true})
		}
	}
	return l
}

// wrongClicks returns one click for each fault of a click.
func wrongClicks() []api.Click {
	var l []api.Click
	for _, n := range edgeInts {
		if n < 0 || n > 1 {
			l = append(l, api.Click{Basis: n, Kind: api.One})
		}
		if n < 0 || n > 3 {
			l = append(l, api.Click{Kind: n})
		}
	}
	return l
}

// anyList returns a list that valid makes, in some cases with an element that is wrong, or with too many of them.
func anyList[T any](r *rand.Rand, valid func(r *rand.Rand, n int) []T, wrong []T) []T {
	n := r.IntN(24)
	if rarely(r, 40) {
		n = 4095 + r.IntN(3)
	}
	l := valid(r, n)
	if n > 0 && rarely(r, 8) {
		l[r.IntN(n)] = oneOf(r, wrong)
	}
	return l
}

func anyPulses(r *rand.Rand) []api.Pulse { return anyList(r, randomPulses, wrongPulses()) }

func anyClicks(r *rand.Rand) []api.Click { return anyList(r, randomClicks, wrongClicks()) }

// anySlots returns slots from first to end - 1, increasing, in some cases with faults.
func anySlots(r *rand.Rand, first, end int) []int {
	var l []int
	for i := first; i < end; i++ {
		if rarely(r, 2) {
			l = append(l, i)
		}
	}
	for len(l) > 0 && rarely(r, 4) {
		switch i, j := r.IntN(len(l)), r.IntN(len(l)); r.IntN(4) {
		case 0:
			l[i] = oneOf(r, edgeInts)
		case 1:
			l[i] = oneOf(r, []int{first - 1, first, end - 1, end})
		case 2:
			l[i] = l[j]
		case 3:
			l[i], l[j] = l[j], l[i]
		}
	}
	return l
}

// anyHeard returns announcements of such slots, in some cases with a wrong basis.
func anyHeard(r *rand.Rand, first, end int) []api.Heard {
	var l []api.Heard
	for _, slot := range anySlots(r, first, end) {
		l = append(l, api.Heard{Slot: slot, Basis: r.IntN(2)})
	}
	for len(l) > 0 && rarely(r, 8) {
		l[r.IntN(len(l))].Basis = oneOf(r, edgeInts)
	}
	return l
}

// row returns weights with the sum 256, many of which are 0.
func row(r *rand.Rand, n int) []int {
	l := make([]int, n)
	left := 256
	for _, i := range r.Perm(n)[1:] {
		switch r.IntN(5) {
		case 0:
		case 1:
			l[i] = left / 2
		default:
			l[i] = r.IntN(left + 1)
		}
		left -= l[i]
	}
	l[0] += left
	return l
}

// decoys returns an arrangement with these weights of photons.
func decoys(weak, signal [4]int) api.Optics {
	return api.Optics{Kind: api.Decoy, Classes: [3]int{64, 64, 128}, Photons: [3][4]int{{256}, weak, signal}, Eta: 256}
}

// theExample is the arrangement of the chapter's example, and its gains.
func theExample() (api.Optics, [3]api.Gain) {
	return decoys([4]int{128, 96, 32, 0}, [4]int{64, 64, 64, 64}), [3]api.Gain{{Sent: 100}, {Sent: 100, Heard: 25}, {Sent: 100, Heard: 40}}
}

// randomDecoys returns any valid arrangement of the kind Decoy.
func randomDecoys(r *rand.Rand) api.Optics {
	o := decoys([4]int(row(r, 4)), [4]int(row(r, 4)))
	o.Classes, o.Eta, o.Dark = [3]int(row(r, 3)), r.IntN(257), r.IntN(257)
	return o
}

// randomGains returns valid gains, often with equal numbers.
func randomGains(r *rand.Rand) [3]api.Gain {
	var g [3]api.Gain
	for i := range g {
		g[i].Sent = oneOf(r, []int{1, 2, 100, 4096, 1 + r.IntN(4096)})
		g[i].Heard = oneOf(r, []int{0, g[i].Sent, r.IntN(g[i].Sent + 1)})
		g[i].Wrong = oneOf(r, []int{0, g[i].Heard, r.IntN(g[i].Heard + 1)})
	}
	return g
}

// bitsOf returns the bit string with a text.
func bitsOf(s string) []bool {
	b := make([]bool, len(s))
	for i := range s {
		b[i] = s[i] == '1'
	}
	return b
}

func frac(num, den uint64) api.Frac { return api.Frac{Num: exact.Of(num), Den: exact.Of(den)} }

func toBig(a api.Nat) *big.Int {
	n := new(big.Int)
	for i := len(a) - 1; i >= 0; i-- {
		n.Lsh(n, 32)
		n.Or(n, big.NewInt(int64(a[i])))
	}
	return n
}

func toRat(f api.Frac) *big.Rat { return new(big.Rat).SetFrac(toBig(f.Num), toBig(f.Den)) }

// full returns the greatest number of n limbs.
func full(n int) api.Nat { return slices.Repeat(api.Nat{1<<32 - 1}, n) }

// wrongFracs returns fractions that are not valid, with their errors.
func wrongFracs() map[api.Errno][]api.Frac {
	return map[api.Errno][]api.Frac{
		api.ErrLong: {{Num: make(api.Nat, 65), Den: api.Nat{1}}, {Num: nil, Den: full(65)}, {Num: full(65), Den: nil}, {Num: full(65), Den: full(65)}},
		api.ErrZero: {{}, frac(1, 0), frac(0, 0), {Num: full(64), Den: make(api.Nat, 64)}},
	}
}

// want fails unless a call gave this list and error.
func want[T comparable](t *testing.T, what string, got []T, e api.Errno, list []T, err api.Errno) {
	t.Helper()
	if e != err || !slices.Equal(got, list) {
		t.Errorf("%s: %s, %d, want %s, %d", what, short(got), e, short(list), err)
	}
}

// wantOne fails unless a call gave this value and error.
func wantOne[T comparable](t *testing.T, what string, got T, e api.Errno, value T, err api.Errno) {
	t.Helper()
	if e != err || got != value {
		t.Errorf("%s: %v, %d, want %v, %d", what, got, e, value, err)
	}
}

// wantFrac fails unless a call gave this fraction, reduced, or this error without one.
func wantFrac(t *testing.T, what string, got api.Frac, e api.Errno, value *big.Rat, err api.Errno) {
	t.Helper()
	if err != api.OK {
		if e != err || len(got.Num) > 0 || len(got.Den) > 0 {
			t.Errorf("%s: %v, %d, want the error %d", what, got, e, err)
		}
		return
	}
	text, _ := exact.FracText(got)
	reduced, _ := exact.FracParse(value.String())
	if e != err || text != value.String() || !slices.Equal(got.Num, reduced.Num) || !slices.Equal(got.Den, reduced.Den) {
		t.Errorf("%s: %v (%s), %d, want %v", what, got, text, e, value)
	}
}

// short returns the beginning of a list, for messages.
func short[T any](l []T) string {
	const most = 30
	var parts []string
	for i, x := range l {
		if i == most {
			parts = append(parts, "..")
			break
		}
		parts = append(parts, fmt.Sprint(x))
	}
	return "[" + strings.Join(parts, " ") + "]"
}

// tally counts which errors a test has met.
type tally map[api.Errno]int

// wantAll fails unless each of these errors was met several times, and no other one.
func (c tally) wantAll(t *testing.T, l ...api.Errno) {
	t.Helper()
	for _, e := range l {
		if c[e] < 5 {
			t.Errorf("the error %d was met %d times", e, c[e])
		}
	}
	for e := range c {
		if !slices.Contains(l, e) {
			t.Errorf("the error %d was met", e)
		}
	}
}

// edits returns all texts that a byte less, a byte more or another byte makes of a text.
func edits(s string) []string {
	var l []string
	for i := range len(s) + 1 {
		for _, c := range " 0123456789+-_.x\n\r\t\x00" {
			l = append(l, s[:i]+string(c)+s[i:])
			if i < len(s) {
				l = append(l, s[:i]+string(c)+s[i+1:])
			}
		}
		if i < len(s) {
			l = append(l, s[:i]+s[i+1:])
		}
	}
	return l
}
