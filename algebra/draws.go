// Package algebra is layer 2: draws from a seed, bit strings, finite fields with polynomial hashing, Toeplitz matrices, and shares of secrets.
package algebra

import (
	"slices"

	"waveplate/api"
)

// Draws are a source of numbers with a state.
type Draws struct {
	// self points to the draws themselves: only what New and Copy return is valid, neither a zero value nor an assigned copy.
	self  *Draws
	state uint64
}

// New returns draws with a seed.
func New(seed uint64) *Draws {
	d := &Draws{state: seed}
	d.self = d
	return d
}

// Copy returns draws with the same state.
func (d *Draws) Copy() *Draws {
	if !d.valid() {
		return nil
	}
	return New(d.state)
}

// Next draws a number.
func (d *Draws) Next() uint64 {
	if !d.valid() {
		return 0
	}
	d.state = 4906513781625342421*d.state + 1181783497276652981
	x := d.state ^ d.state>>32
	y := 7809847782465536323 * x
	return y ^ y>>29
}

// Below draws a number from 0 to n - 1.
func (d *Draws) Below(n int) (int, api.Errno) {
	switch {
	case !d.valid():
		return 0, api.ErrNil
	case n < 1:
		return 0, api.ErrArg
	}
	return below(n, d.Next), api.OK
}

// Bits draws n bits.
func (d *Draws) Bits(n int) ([]bool, api.Errno) {
	switch {
	case !d.valid():
		return nil, api.ErrNil
	case !isLength(n):
		return nil, api.ErrRange
	}
	b := make([]bool, n)
	for i := range b {
		b[i] = d.Next()%2 == 1
	}
	return b, api.OK
}

// Perm draws an order of the numbers from 0 to n - 1.
func (d *Draws) Perm(n int) ([]int, api.Errno) {
	switch {
	case !d.valid():
		return nil, api.ErrNil
	case !isLength(n):
		return nil, api.ErrRange
	}
	return permutation(n, d.Next), api.OK
}

// Sample draws k different numbers from 0 to n - 1, in increasing order.
func (d *Draws) Sample(n, k int) ([]int, api.Errno) {
	switch {
	case !d.valid():
		return nil, api.ErrNil
	case !isLength(n), k < 0, k > n:
		return nil, api.ErrRange
	}
	// The other elements are not part of the result, not even of its memory.
	l := slices.Clone(permutation(n, d.Next)[:k])
	slices.Sort(l)
	return l, api.OK
}

func (d *Draws) valid() bool { return d != nil && d.self == d }

// isLength reports whether bit strings of n bits are within the limit.
func isLength(n int) bool { return n >= 0 && n <= api.MaxBits }

// below returns a number from 0 to n - 1 that is drawn with next.
func below(n int, next func() uint64) int { return int(next() % uint64(n)) }

// permutation returns the numbers from 0 to n - 1 in an order that is drawn with next.
func permutation(n int, next func() uint64) []int {
	l := make([]int, n)
	for i := range l {
		l[i] = i
	}
	for i := n - 1; i >= 1; i-- {
		j := below(i+1, next)
		l[i], l[j] = l[j], l[i]
	}
	return l
}
