package distil_test

import (
	"fmt"
	"math"
	"math/rand/v2"
	"slices"
	"strings"
	"testing"

	"waveplate/api"
	"waveplate/distil"
)

// edgeInts are numbers around the limits, and the greatest and least of their type.
var edgeInts = []int{math.MinInt, math.MinInt + 1, -513, -2, -1, 0, 1, 2, 3, 4, 5, 7, 8, 9, 15, 16, 17, 24, 31, 32, 33, 64, 511, 512, 513, 999, 1000, 65535, 65536, 65537, 1 << 32, math.MaxInt - 1, math.MaxInt}

// edgeWords are numbers around the powers of two that bound the elements of fields.
var edgeWords = []uint64{0, 1, 255, 256, 65535, 65536, 1<<32 - 1, 1 << 32, 1 << 63, math.MaxUint64}

var widths = []int{8, 16, 32}

func newRand() *rand.Rand { return rand.New(rand.NewPCG(11, 12)) }

// oneOf returns any element of a list.
func oneOf[T any](r *rand.Rand, l []T) T { return l[r.IntN(len(l))] }

// rarely reports true in one of n cases.
func rarely(r *rand.Rand, n int) bool { return r.IntN(n) == 0 }

// orEdge returns n, or in one of a few cases any edge.
func orEdge(r *rand.Rand, n int) int {
	if rarely(r, 12) {
		return oneOf(r, edgeInts)
	}
	return n
}

// anyWord returns an element of the field of a width, or in one of a few cases any edge.
func anyWord(r *rand.Rand, w int) uint64 {
	if rarely(r, 8) {
		return oneOf(r, edgeWords)
	}
	return r.Uint64() >> (64 - w)
}

// anyWidth returns a width, or in one of a few cases any edge, and a width for elements in all cases.
func anyWidth(r *rand.Rand) (w, valid int) {
	w = oneOf(r, widths)
	return orEdge(r, w), w
}

func randomBits(r *rand.Rand, n int) []bool {
	b := make([]bool, n)
	for i := range b {
		b[i] = r.IntN(2) == 1
	}
	return b
}

// anyBlock returns bits, in some cases just as many as a block has at most, or one more.
func anyBlock(r *rand.Rand) []bool {
	if rarely(r, 10) {
		return randomBits(r, 511+r.IntN(3))
	}
	return randomBits(r, r.IntN(60))
}

// bitsOf returns the bit string with a text.
func bitsOf(s string) []bool {
	b := make([]bool, len(s))
	for i := range s {
		b[i] = s[i] == '1'
	}
	return b
}

// allBits returns all bit strings of n bits.
func allBits(n int) [][]bool {
	var l [][]bool
	for x := range 1 << n {
		b := make([]bool, n)
		for i := range b {
			b[i] = x>>i&1 == 1
		}
		l = append(l, b)
	}
	return l
}

// flip returns a bit string with some bits inverted.
func flip(b []bool, at ...int) []bool {
	c := slices.Clone(b)
	for _, i := range at {
		c[i] = !c[i]
	}
	return c
}

// item returns an item, to write ledgers in a short way.
func item(kind, bits int) api.Item { return api.Item{Kind: kind, Bits: bits} }

// randomLedger returns a ledger of at most n items.
func randomLedger(r *rand.Rand, n, bits int) []api.Item {
	var l []api.Item
	for range r.IntN(n + 1) {
		l = append(l, item(1+r.IntN(4), r.IntN(bits+1)))
	}
	return l
}

// anyLedger returns a ledger, in some cases one that is not valid.
func anyLedger(r *rand.Rand, n, bits int) []api.Item {
	l := randomLedger(r, n, bits)
	for rarely(r, 8) {
		l = slices.Insert(l, r.IntN(len(l)+1), item(oneOf(r, []int{1, 4, 0, 5, -1}), oneOf(r, edgeInts)))
	}
	if rarely(r, 20) {
		l = slices.Concat(l, manyItems(999+r.IntN(3)))
	}
	return l
}

// manyItems returns a ledger of n items, the last one of which is of the kind ItemHash.
func manyItems(n int) []api.Item {
	l := make([]api.Item, n)
	for i := range l {
		l[n-1-i] = item(1+(i+2)%4, 1+i%7)
	}
	return l
}

// newPool returns a pool, and fails with an error.
func newPool(t *testing.T, w int, bits []bool) *distil.Pool {
	t.Helper()
	p, e := distil.NewPool(w, bits)
	if e != api.OK {
		t.Fatalf("NewPool of the width %d, %d bits: %d", w, len(bits), e)
	}
	return p
}

// seal returns the tag of a message, and fails with an error.
func seal(t *testing.T, p *distil.Pool, number int, m []bool) uint64 {
	t.Helper()
	tag, e := p.Seal(number, m)
	if e != api.OK {
		t.Fatalf("Seal of %d: %d", number, e)
	}
	return tag
}

// want fails unless a call gave this list and error.
func want[T comparable](t *testing.T, what string, got []T, e api.Errno, list []T, err api.Errno) {
	t.Helper()
	if e != err || !slices.Equal(got, list) {
		t.Errorf("%s: %s, %d, want %s, %d", what, short(got), e, short(list), err)
	}
}

// wantOne fails unless a call gave this value and error.
func wantOne[T comparable](t *testing.T, what string, got T, e api.Errno, value T, err api.Errno) {
	t.Helper()
	if e != err || got != value {
		t.Errorf("%s: %v, %d, want %v, %d", what, got, e, value, err)
	}
}

// wantError fails unless a call gave this error.
func wantError(t *testing.T, what string, e, err api.Errno) {
	t.Helper()
	wantOne(t, what, 0, e, 0, err)
}

// short returns the beginning of a list, for messages.
func short[T any](l []T) string {
	const most = 30
	var parts []string
	for i, x := range l {
		if i == most {
			parts = append(parts, "..")
			break
		}
		parts = append(parts, fmt.Sprint(x))
	}
	return "[" + strings.Join(parts, " ") + "]"
}

// tally counts which errors a test has met.
type tally map[api.Errno]int

// wantAll fails unless each of these errors was met several times, and no other one.
func (c tally) wantAll(t *testing.T, l ...api.Errno) {
	t.Helper()
	for _, e := range l {
		if c[e] < 5 {
			t.Errorf("the error %d was met %d times", e, c[e])
		}
	}
	for e := range c {
		if !slices.Contains(l, e) {
			t.Errorf("the error %d was met", e)
		}
	}
}
