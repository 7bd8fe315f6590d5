package reconcile_test

import (
	"fmt"
	"math"
	"math/rand/v2"
	"slices"
	"strings"
	"testing"

	"waveplate/api"
	"waveplate/reconcile"
)

// edgeInts are numbers around the limits, and the greatest and least of their type.
var edgeInts = []int{math.MinInt, math.MinInt + 1, -513, -2, -1, 0, 1, 2, 3, 4, 5, 6, 7, 63, 64, 65, 255, 256, 257, 511, 512, 513, 4096, 1 << 32, math.MaxInt - 1, math.MaxInt}

// edgeSeeds are seeds, some of which overflow in a later pass.
var edgeSeeds = []uint64{0, 1, 7, 1 << 63, math.MaxUint64 - 4, math.MaxUint64 - 1, math.MaxUint64}

func newRand() *rand.Rand { return rand.New(rand.NewPCG(9, 10)) }

// oneOf returns any element of a list.
func oneOf[T any](r *rand.Rand, l []T) T { return l[r.IntN(len(l))] }

// rarely reports true in one of n cases.
func rarely(r *rand.Rand, n int) bool { return r.IntN(n) == 0 }

// orEdge returns n, or in one of a few cases any edge.
func orEdge(r *rand.Rand, n int) int {
	if rarely(r, 12) {
		return oneOf(r, edgeInts)
	}
	return n
}

func randomSeed(r *rand.Rand) uint64 {
	if rarely(r, 4) {
		return oneOf(r, edgeSeeds)
	}
	return r.Uint64()
}

func randomBits(r *rand.Rand, n int) []bool {
	b := make([]bool, n)
	for i := range b {
		b[i] = r.IntN(2) == 1
	}
	return b
}

// noisy returns a bit string with about one of rate bits inverted.
func noisy(r *rand.Rand, b []bool, rate int) []bool {
	c := slices.Clone(b)
	for i := range c {
		c[i] = c[i] != rarely(r, rate)
	}
	return c
}

// flip returns a bit string with some bits inverted.
func flip(b []bool, at ...int) []bool {
	c := slices.Clone(b)
	for _, i := range at {
		c[i] = !c[i]
	}
	return c
}

// bitsOf returns the bit string with a text.
func bitsOf(s string) []bool {
	b := make([]bool, len(s))
	for i := range s {
		b[i] = s[i] == '1'
	}
	return b
}

// allBits returns all bit strings of n bits.
func allBits(n int) [][]bool {
	var l [][]bool
	for x := range 1 << n {
		b := make([]bool, n)
		for i := range b {
			b[i] = x>>i&1 == 1
		}
		l = append(l, b)
	}
	return l
}

// distance returns at how many places two strings differ.
func distance(a, b []bool) int {
	n := 0
	for i := range a {
		if a[i] != b[i] {
			n++
		}
	}
	return n
}

// randomPlan returns any valid plan, mostly with blocks that suit n bits.
func randomPlan(r *rand.Rand, n int) api.Cascade {
	block := 1 + r.IntN(n/2+1)
	if rarely(r, 6) {
		block = oneOf(r, []int{1, 64, 511, 512, 1 + r.IntN(512)})
	}
	return api.Cascade{Passes: 1 + r.IntN(6), Block: min(block, 512), Seed: randomSeed(r)}
}

// anyPlan returns a plan, in some cases one that is not valid.
func anyPlan(r *rand.Rand, n int) api.Cascade {
	c := randomPlan(r, max(0, min(n, 512)))
	c.Passes, c.Block = orEdge(r, c.Passes), orEdge(r, c.Block)
	return c
}

// anyLength returns how many bits a string has, in some cases too many.
func anyLength(r *rand.Rand) int {
	if rarely(r, 12) {
		return 510 + r.IntN(5)
	}
	return r.IntN(40)
}

// anyQuestion returns a question for n bits, in some cases one that is not valid.
func anyQuestion(r *rand.Rand, c api.Cascade, n int) api.Question {
	from := r.IntN(max(1, min(n, 512)))
	q := api.Question{Pass: r.IntN(max(1, min(c.Passes, 6))), From: from, To: from + 1 + r.IntN(max(1, min(n, 512)-from))}
	return api.Question{Pass: orEdge(r, q.Pass), From: orEdge(r, q.From), To: orEdge(r, q.To)}
}

// wrongPlans are plans that are not valid.
func wrongPlans() []api.Cascade {
	var l []api.Cascade
	for _, n := range edgeInts {
		if n < 1 || n > 6 {
			l = append(l, api.Cascade{Passes: n, Block: 4})
		}
		if n < 1 || n > 512 {
			l = append(l, api.Cascade{Passes: 2, Block: n})
		}
	}
	return l
}

// randomCode returns any valid code.
func randomCode(r *rand.Rand, bits, checks int) api.Code {
	c := api.Code{Bits: 1 + r.IntN(bits), Checks: 1 + r.IntN(checks), Seed: randomSeed(r)}
	c.Degree = 1 + r.IntN(min(4, c.Checks))
	return c
}

// wrongCodes are codes that are not valid.
func wrongCodes() []api.Code {
	l := []api.Code{{}, {Bits: 8, Checks: 3, Degree: 4}, {Bits: 8, Checks: 1, Degree: 2}}
	for _, n := range edgeInts {
		if n < 1 || n > 512 {
			l = append(l, api.Code{Bits: n, Checks: 4, Degree: 1})
		}
		if n < 1 || n > 256 {
			l = append(l, api.Code{Bits: 8, Checks: n, Degree: 1})
		}
		if n < 1 || n > 4 {
			l = append(l, api.Code{Bits: 8, Checks: 256, Degree: n})
		}
	}
	return l
}

// newMachine returns a machine, and fails with an error.
func newMachine(t *testing.T, c api.Cascade, b []bool) *reconcile.Machine {
	t.Helper()
	m, e := reconcile.New(c, b)
	if e != api.OK {
		t.Fatalf("New of %v, %d bits: %d", c, len(b), e)
	}
	return m
}

// tell answers a question, and fails with an error.
func tell(t *testing.T, m *reconcile.Machine, parity bool) {
	t.Helper()
	if e := m.Tell(parity); e != api.OK {
		t.Fatalf("Tell: %d", e)
	}
}

// isOver reports whether a machine has no question.
func isOver(m *reconcile.Machine) bool {
	_, open, _ := m.Ask()
	return !open
}

// want fails unless a call gave this list and error.
func want[T comparable](t *testing.T, what string, got []T, e api.Errno, list []T, err api.Errno) {
	t.Helper()
	if e != err || !slices.Equal(got, list) {
		t.Errorf("%s: %s, %d, want %s, %d", what, short(got), e, short(list), err)
	}
}

// wantOne fails unless a call gave this value and error.
func wantOne[T comparable](t *testing.T, what string, got T, e api.Errno, value T, err api.Errno) {
	t.Helper()
	if e != err || got != value {
		t.Errorf("%s: %v, %d, want %v, %d", what, got, e, value, err)
	}
}

// short returns the beginning of a list, for messages.
func short[T any](l []T) string {
	const most = 30
	var parts []string
	for i, x := range l {
		if i == most {
			parts = append(parts, "..")
			break
		}
		parts = append(parts, fmt.Sprint(x))
	}
	return "[" + strings.Join(parts, " ") + "]"
}

// tally counts which errors a test has met.
type tally map[api.Errno]int

// wantAll fails unless each of these errors was met several times, and no other one.
func (c tally) wantAll(t *testing.T, l ...api.Errno) {
	t.Helper()
	for _, e := range l {
		if c[e] < 5 {
			t.Errorf("the error %d was met %d times", e, c[e])
		}
	}
	for e := range c {
		if !slices.Contains(l, e) {
			t.Errorf("the error %d was met", e)
		}
	}
}
