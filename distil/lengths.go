package distil

import (
	"waveplate/algebra"
	"waveplate/api"
	"waveplate/exact"
)

// Cost returns the cost of errors.
func Cost(n, t int) (int, api.Errno) {
	ball, e := exact.Ball(n, t)
	if e != api.OK {
		return 0, e
	}
	return exact.Bits(ball)
}

// Length returns the length of a key.
func Length(n, t int, l []api.Item, margin int) (int, api.Errno) {
	if !isSize(n) || !isSize(t) || !isSize(margin) {
		return 0, api.ErrRange
	}
	total, e := Total(l)
	if e != api.OK {
		return 0, e
	}
	cost, e := Cost(n, t)
	if e != api.OK {
		return 0, e
	}
	return max(0, n-cost-total-margin), api.OK
}

// Seed returns seed bits.
func Seed(n, out int, seed uint64) ([]bool, api.Errno) {
	if !isSize(n) || !isSize(out) {
		return nil, api.ErrRange
	}
	return algebra.New(seed).Bits(max(0, n+out-1))
}

// Amplify shortens a block.
func Amplify(block []bool, out int, seed uint64) ([]bool, api.Errno) {
	if len(block) > api.MaxBlock {
		return nil, api.ErrLong
	}
	bits, e := Seed(len(block), out, seed)
	if e != api.OK {
		return nil, e
	}
	return algebra.Toeplitz(bits, block, out)
}

// Distil makes a key out of a block.
func Distil(block []bool, n, t int, l []api.Item, margin int, seed uint64) ([]bool, api.Errno) {
	switch {
	case len(block) > api.MaxBlock:
		return nil, api.ErrLong
	case n < 0 || n > len(block):
		return nil, api.ErrRange
	}
	length, e := Length(n, t, l, margin)
	switch {
	case e != api.OK:
		return nil, e
	case length == 0:
		return nil, api.ErrShort
	}
	return Amplify(block, length, seed)
}
