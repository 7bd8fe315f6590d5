package exact_test

import (
	"math/big"
	"math/rand/v2"
	"slices"
	"testing"

	"waveplate/api"
	"waveplate/exact"
)

const topLimb = 1<<32 - 1

// edgeLimbs are limbs at which carries, borrows and guessed digits change.
var edgeLimbs = []uint32{0, 1, 2, 1<<31 - 1, 1 << 31, 1<<31 + 1, topLimb - 1, topLimb}

func newRand() *rand.Rand { return rand.New(rand.NewPCG(1, 2)) }

// randomNat returns a number of at most most limbs, of which about a half are edge limbs; it need not be normal.
func randomNat(r *rand.Rand, most int) api.Nat {
	a := make(api.Nat, r.IntN(most+1))
	for i := range a {
		a[i] = r.Uint32()
		if r.IntN(2) == 0 {
			a[i] = edgeLimbs[r.IntN(len(edgeLimbs))]
		}
	}
	return a
}

// randomFrac returns a valid fraction; it need not be reduced.
func randomFrac(r *rand.Rand, most int) api.Frac {
	f := api.Frac{Num: randomNat(r, most), Den: randomNat(r, most)}
	if toBig(f.Den).Sign() == 0 {
		f.Den = api.Nat{1 + r.Uint32N(9), 0}
	}
	return f
}

func toBig(a api.Nat) *big.Int {
	n := new(big.Int)
	for i := len(a) - 1; i >= 0; i-- {
		n.Lsh(n, 32)
		n.Or(n, big.NewInt(int64(a[i])))
	}
	return n
}

func fromBig(n *big.Int) api.Nat {
	var a api.Nat
	rest := new(big.Int).Set(n)
	for rest.Sign() > 0 {
		a = append(a, uint32(new(big.Int).And(rest, big.NewInt(topLimb)).Uint64()))
		rest.Rsh(rest, 32)
	}
	return a
}

func toRat(f api.Frac) *big.Rat { return new(big.Rat).SetFrac(toBig(f.Num), toBig(f.Den)) }

// power returns 2^n.
func power(n int) api.Nat { return fromBig(new(big.Int).Lsh(big.NewInt(1), uint(n))) }

// full returns the greatest number of n limbs.
func full(n int) api.Nat { return slices.Repeat(api.Nat{topLimb}, n) }

// frac returns the fraction of two small numbers.
func frac(n, d uint64) api.Frac { return api.Frac{Num: exact.Of(n), Den: exact.Of(d)} }

// wantNat fails unless a call gave this error, or no error and just these limbs.
func wantNat(t *testing.T, what string, got api.Nat, e api.Errno, want api.Nat, wantErr api.Errno) {
	t.Helper()
	if e != wantErr || !slices.Equal(got, want) {
		t.Errorf("%s: %v, %d, want %v, %d", what, got, e, want, wantErr)
	}
}

// wantBig fails unless a call gave this number, normal, or ErrOver where it has more than MaxLimbs limbs.
func wantBig(t *testing.T, what string, got api.Nat, e api.Errno, want *big.Int) {
	t.Helper()
	if want.BitLen() > 32*api.MaxLimbs {
		wantNat(t, what, got, e, nil, api.ErrOver)
		return
	}
	wantNat(t, what, got, e, fromBig(want), api.OK)
}

// wantFrac fails unless a call gave this error, or no error and just these limbs.
func wantFrac(t *testing.T, what string, got api.Frac, e api.Errno, want api.Frac, wantErr api.Errno) {
	t.Helper()
	if e != wantErr || !slices.Equal(got.Num, want.Num) || !slices.Equal(got.Den, want.Den) {
		t.Errorf("%s: %v, %d, want %v, %d", what, got, e, want, wantErr)
	}
}

// wantRat fails unless a call gave this fraction, reduced, or ErrOver where it does not fit.
func wantRat(t *testing.T, what string, got api.Frac, e api.Errno, want *big.Rat) {
	t.Helper()
	if max(want.Num().BitLen(), want.Denom().BitLen()) > 32*api.MaxLimbs {
		wantFrac(t, what, got, e, api.Frac{}, api.ErrOver)
		return
	}
	wantFrac(t, what, got, e, api.Frac{Num: fromBig(want.Num()), Den: fromBig(want.Denom())}, api.OK)
}
