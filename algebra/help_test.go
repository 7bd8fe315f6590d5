package algebra_test

import (
	"fmt"
	"math"
	"math/rand/v2"
	"slices"
	"strings"
	"testing"

	"waveplate/algebra"
	"waveplate/api"
)

// edgeInts are numbers around the limits, and the greatest and least of their type.
var edgeInts = []int{math.MinInt, math.MinInt + 1, -1000, -1, 0, 1, 2, 7, 8, 9, 15, 16, 17, 31, 32, 33, 63, 64, 65, 255, 256, 257, 511, 512, 513, 65535, 65536, 65537, 1 << 32, math.MaxInt - 1, math.MaxInt}

func newRand() *rand.Rand { return rand.New(rand.NewPCG(3, 4)) }

func randomBits(r *rand.Rand, n int) []bool {
	b := make([]bool, n)
	for i := range b {
		b[i] = r.IntN(2) == 1
	}
	return b
}

func randomBytes(r *rand.Rand, n int) []byte {
	p := make([]byte, n)
	for i := range p {
		p[i] = byte(r.Uint32())
	}
	return p
}

// bits returns the bit string with a text, without the functions of the package.
func bits(s string) []bool {
	b := make([]bool, len(s))
	for i := range s {
		b[i] = s[i] == '1'
	}
	return b
}

// allBits returns all bit strings of n bits.
func allBits(n int) [][]bool {
	var l [][]bool
	for x := range 1 << n {
		b := make([]bool, n)
		for i := range b {
			b[i] = x>>i&1 == 1
		}
		l = append(l, b)
	}
	return l
}

// xorBits returns the xor of two bit strings of one length.
func xorBits(a, b []bool) []bool {
	x := make([]bool, len(a))
	for i := range a {
		x[i] = a[i] != b[i]
	}
	return x
}

func xorBytes(a, b []byte) []byte {
	x := make([]byte, len(a))
	for i := range a {
		x[i] = a[i] ^ b[i]
	}
	return x
}

// want fails unless a call gave this list and error.
func want[T comparable](t *testing.T, what string, got []T, e api.Errno, list []T, err api.Errno) {
	t.Helper()
	if e != err || !slices.Equal(got, list) {
		t.Errorf("%s: %s, %d, want %s, %d", what, short(got), e, short(list), err)
	}
}

// wantOne fails unless a call gave this value and error.
func wantOne[T comparable](t *testing.T, what string, got T, e api.Errno, value T, err api.Errno) {
	t.Helper()
	if e != err || got != value {
		t.Errorf("%s: %v, %d, want %v, %d", what, got, e, value, err)
	}
}

// short returns the beginning of a list, for messages.
func short[T any](l []T) string {
	const most = 20
	var parts []string
	for i, x := range l {
		if i == most {
			parts = append(parts, "..")
			break
		}
		parts = append(parts, fmt.Sprint(x))
	}
	return "[" + strings.Join(parts, " ") + "]"
}

// spare returns the same list with elements beyond its end, which nothing may read or write.
func spare[T any](l []T, filler T) []T {
	longer := append(slices.Clone(l), filler, filler, filler)
	return longer[:len(l)]
}

// copyShares returns copies of shares that share no memory.
func copyShares(l []api.Share) []api.Share {
	c := slices.Clone(l)
	for i := range c {
		c[i].Y = slices.Clone(c[i].Y)
	}
	return c
}

func sameShares(a, b []api.Share) bool {
	return slices.EqualFunc(a, b, func(x, y api.Share) bool { return x.X == y.X && slices.Equal(x.Y, y.Y) })
}

// split returns the shares of a secret, and fails with an error.
func split(t *testing.T, secret []byte, n, k int, coins []byte) []api.Share {
	t.Helper()
	l, e := algebra.Split(secret, n, k, coins)
	if e != api.OK {
		t.Fatalf("Split of %d bytes, n = %d, k = %d: %d", len(secret), n, k, e)
	}
	return l
}
