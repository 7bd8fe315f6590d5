package algebra_test

import (
	"bytes"
	"fmt"
	"math/rand/v2"
	"slices"
	"testing"

	"waveplate/algebra"
	"waveplate/api"
)

// sharesOf returns the shares of a secret, by their definition.
func sharesOf(secret []byte, n, k int, coins []byte) []api.Share {
	var l []api.Share
	for place := 1; place <= n; place++ {
		s := api.Share{X: byte(place)}
		for j := range secret {
			y, power := secret[j], uint64(1)
			for i := range k - 1 {
				power = times(8, power, uint64(place))
				y ^= byte(times(8, power, uint64(coins[j*(k-1)+i])))
			}
			s.Y = append(s.Y, y)
		}
		l = append(l, s)
	}
	return l
}

// share returns a share of a secret of one byte.
func share(x, y byte) api.Share { return api.Share{X: x, Y: []byte{y}} }

// wantShares fails unless a call gave these shares and this error.
func wantShares(t *testing.T, what string, got []api.Share, e api.Errno, list []api.Share, err api.Errno) {
	t.Helper()
	if e != err || !sameShares(got, list) {
		t.Errorf("%s: %s, %d, want %s, %d", what, short(got), e, short(list), err)
	}
}

// P2.13.
func TestSplit(t *testing.T) {
	r := newRand()
	for _, length := range []int{0, 1, 2, 5, 255, 256} {
		for n := 1; n <= 16; n++ {
			for k := 1; k <= n; k++ {
				secret, coins := randomBytes(r, length), randomBytes(r, (k-1)*length)
				l, e := algebra.Split(secret, n, k, coins)
				wantShares(t, fmt.Sprintf("Split of %d bytes, n = %d, k = %d", length, n, k), l, e, sharesOf(secret, n, k, coins), api.OK)
			}
		}
	}
}

// P2.13: ErrLong comes before ErrRange, and that before ErrEqual.
func TestSplitErrors(t *testing.T) {
	for _, length := range []int{0, 1, 3, 256, 257, 70000} {
		secret := make([]byte, length)
		for _, n := range edgeInts {
			for _, k := range append(slices.Clone(edgeInts), n) {
				if length <= 256 && n >= 1 && n <= 16 && k >= 1 && k <= n {
					continue
				}
				err := api.ErrRange
				if length > 256 {
					err = api.ErrLong
				}
				for _, coins := range []int{0, 1, 2 * length} {
					l, e := algebra.Split(secret, n, k, make([]byte, coins))
					wantShares(t, fmt.Sprintf("Split of %d bytes, n = %d, k = %d", length, n, k), l, e, nil, err)
				}
			}
		}
	}
	for _, length := range []int{0, 1, 3, 256} {
		for _, k := range []int{1, 2, 3, 16} {
			right := (k - 1) * length
			for _, coins := range []int{0, 1, right - 1, right + 1, k * length, k - 1, length, 2 * right} {
				if coins < 0 || coins == right {
					continue
				}
				l, e := algebra.Split(make([]byte, length), 16, k, make([]byte, coins))
				wantShares(t, fmt.Sprintf("Split of %d bytes, k = %d, with %d coins", length, k, coins), l, e, nil, api.ErrEqual)
			}
		}
	}
}

// choose returns count shares of a list, in a random order.
func choose(r *rand.Rand, l []api.Share, count int) []api.Share {
	c := slices.Clone(l)
	r.Shuffle(len(c), func(i, j int) { c[i], c[j] = c[j], c[i] })
	return c[:count]
}

// P2.14 and P2.20.
func TestJoin(t *testing.T) {
	r := newRand()
	for _, length := range []int{0, 1, 7, 256} {
		for n := 1; n <= 16; n++ {
			for k := 1; k <= n; k++ {
				secret := randomBytes(r, length)
				l := split(t, secret, n, k, randomBytes(r, (k-1)*length))
				for _, count := range []int{k, k + r.IntN(n-k+1), n} {
					got, e := algebra.Join(choose(r, l, count), k)
					want(t, fmt.Sprintf("Join of %d of %d shares, k = %d", count, n, k), got, e, secret, api.OK)
				}
				got, e := algebra.Join(choose(r, l, r.IntN(k)), k)
				want(t, "Join of too few", got, e, nil, api.ErrShort)
			}
		}
	}
}

// P2.20: all lists of different shares.
func TestJoinInEveryOrder(t *testing.T) {
	secret := []byte{0, 1, 200}
	for k := 1; k <= 4; k++ {
		l := split(t, secret, 5, k, randomBytes(newRand(), 3*(k-1)))
		var visit func(some []api.Share)
		visit = func(some []api.Share) {
			got, e := algebra.Join(some, k)
			if len(some) < k {
				want(t, "Join", got, e, nil, api.ErrShort)
			} else {
				want(t, "Join", got, e, secret, api.OK)
			}
			for _, s := range l {
				if !slices.ContainsFunc(some, func(o api.Share) bool { return o.X == s.X }) {
					visit(append(slices.Clone(some), s))
				}
			}
		}
		visit(nil)
	}
}

// P2.14: shares that no secret was split into are joined too: to the value at 0 of the polynomial through them.
func TestJoinOfAnyShares(t *testing.T) {
	for y := range 256 {
		for z := range 256 {
			got, e := algebra.Join([]api.Share{share(3, byte(y)), share(7, byte(z))}, 2)
			if e != api.OK || len(got) != 1 {
				t.Fatal(got, e)
			}
			// The line through both: its slope is the quotient of the differences.
			slope := times(8, uint64(y^z), inverseOf(3^7))
			if line := uint64(y) ^ times(8, slope, 3); uint64(got[0]) != line {
				t.Fatalf("Join of %d at 3 and %d at 7: %d, want %d", y, z, got[0], line)
			}
		}
	}
}

// inverseOf returns the inverse of a byte.
func inverseOf(a uint64) uint64 {
	for b := range uint64(256) {
		if times(8, a, b) == 1 {
			return b
		}
	}
	return 0
}

// P2.14: any other share that is not on the polynomials gives ErrSum, whichever byte of it is wrong.
func TestJoinOfWrongShares(t *testing.T) {
	r := newRand()
	for range 300 {
		length, n := 1+r.IntN(20), 2+r.IntN(15)
		k := 1 + r.IntN(n-1)
		l := split(t, randomBytes(r, length), n, k, randomBytes(r, (k-1)*length))
		l = copyShares(choose(r, l, k+1+r.IntN(n-k)))
		l[r.IntN(len(l))].Y[r.IntN(length)] ^= byte(1 + r.IntN(255))
		got, e := algebra.Join(l, k)
		want(t, fmt.Sprintf("Join of %d shares, k = %d, one of them wrong", len(l), k), got, e, nil, api.ErrSum)
	}
	l := split(t, []byte{1, 2, 3}, 16, 1, nil)
	for at := range l {
		for j := range 3 {
			bad := copyShares(l)
			bad[at].Y[j] ^= 128
			got, e := algebra.Join(bad, 1)
			want(t, fmt.Sprintf("Join of 16 shares, the byte %d of the one at %d is wrong", j, at+1), got, e, nil, api.ErrSum)
		}
	}
}

// P2.14: ErrRange comes before ErrShort, and both before the faults of the shares.
func TestJoinErrors(t *testing.T) {
	faulty := []api.Share{{X: 0, Y: make([]byte, 300)}, {X: 0}, {X: 17}}
	for _, k := range edgeInts {
		for count := range 4 {
			got, e := algebra.Join(faulty[:count], k)
			what := fmt.Sprintf("Join of %d shares, k = %d", count, k)
			switch {
			case k < 1 || k > 16:
				want(t, what, got, e, nil, api.ErrRange)
			case count < k:
				want(t, what, got, e, nil, api.ErrShort)
			default:
				want(t, what, got, e, nil, api.ErrArg)
			}
		}
	}
}

// faults are shares of one byte and, after one at the place 5, the error that they give.
func faults() []struct {
	s   api.Share
	err api.Errno
} {
	long := make([]byte, 257)
	return []struct {
		s   api.Share
		err api.Errno
	}{
		{share(0, 1), api.ErrArg}, {share(17, 1), api.ErrArg}, {share(255, 1), api.ErrArg}, {api.Share{}, api.ErrArg}, {api.Share{X: 128, Y: long}, api.ErrArg},
		{share(5, 1), api.ErrHave}, {share(5, 9), api.ErrHave}, {api.Share{X: 5}, api.ErrHave}, {api.Share{X: 5, Y: long}, api.ErrHave},
		{api.Share{X: 1}, api.ErrEqual}, {api.Share{X: 2, Y: []byte{1, 2}}, api.ErrEqual}, {api.Share{X: 16, Y: long}, api.ErrEqual},
	}
}

// P2.14 and P2.15: the first share with a fault decides, also behind the first k shares, and before ErrSum.
func TestFaultsOfShares(t *testing.T) {
	good := []api.Share{share(5, 1), share(9, 77), share(10, 33)}
	for _, first := range faults() {
		for _, second := range faults() {
			for at := 1; at <= 3; at++ {
				l := slices.Insert(slices.Clone(good), at, first.s)
				l = append(l, second.s)
				for k := 1; k <= len(l); k++ {
					got, e := algebra.Join(l, k)
					want(t, fmt.Sprint("Join of ", l, ", k = ", k), got, e, nil, first.err)
				}
				got, e := algebra.Explain(l, 16, []byte{200})
				want(t, fmt.Sprint("Explain of ", l), got, e, nil, first.err)
			}
		}
	}
}

// P2.14: the secret of shares that are too long, all of one length; and the first share has no share before it.
func TestJoinOfLongShares(t *testing.T) {
	long := api.Share{X: 3, Y: make([]byte, 257)}
	for _, l := range [][]api.Share{{long}, {long, share(3, 1)}, {long, share(0, 1)}, {long, {X: 4, Y: make([]byte, 257)}}, {{X: 16, Y: make([]byte, 100000)}, long}} {
		got, e := algebra.Join(l, 1)
		want(t, "Join of long shares", got, e, nil, api.ErrLong)
	}
	got, e := algebra.Join([]api.Share{{X: 0, Y: make([]byte, 257)}}, 1)
	want(t, "Join of a long share at 0", got, e, nil, api.ErrArg)
	got, e = algebra.Join([]api.Share{{X: 3, Y: make([]byte, 256)}}, 1)
	want(t, "Join of a share of 256 bytes", got, e, make([]byte, 256), api.OK)
	many := make([]api.Share, 100000)
	for i := range many {
		many[i] = share(byte(1+i%16), 7)
	}
	got, e = algebra.Join(many, 1)
	want(t, "Join of 100000 shares", got, e, nil, api.ErrHave)
	got, e = algebra.Join(many[:16], 1)
	want(t, "Join of 16 shares", got, e, []byte{7}, api.OK)
}

// P2.15.
func TestExplain(t *testing.T) {
	r := newRand()
	for _, length := range []int{0, 1, 6, 256} {
		for k := 1; k <= 16; k++ {
			for v := range k {
				secret := randomBytes(r, length)
				l := choose(r, split(t, make([]byte, length), 16, 1, nil), v)
				l = copyShares(l)
				for i := range l {
					l[i].Y = randomBytes(r, length)
				}
				coins, e := algebra.Explain(l, k, secret)
				what := fmt.Sprintf("Explain of %d shares, k = %d, for %d bytes", v, k, length)
				if e != api.OK || len(coins) != (k-1)*length {
					t.Fatalf("%s: %d coins, %d", what, len(coins), e)
				}
				all := sharesOf(secret, 16, k, coins)
				for _, s := range l {
					if !bytes.Equal(all[s.X-1].Y, s.Y) {
						t.Errorf("%s: the share at %d is %s, want %s", what, s.X, short(all[s.X-1].Y), short(s.Y))
					}
				}
				for j := range length {
					for power := v + 1; power < k; power++ {
						if coin := coins[j*(k-1)+power-1]; coin != 0 {
							t.Errorf("%s: the power %d of the byte %d has the coin %d", what, power, j, coin)
						}
					}
				}
			}
		}
	}
}

// P2.15: there is exactly one such list of coins.
func TestExplainIsTheOnlyOne(t *testing.T) {
	shares := []api.Share{share(6, 130), share(2, 9)}
	got, e := algebra.Explain(shares, 3, []byte{44})
	var found [][]byte
	for c := range 256 * 256 {
		coins := []byte{byte(c), byte(c >> 8)}
		l := sharesOf([]byte{44}, 6, 3, coins)
		if l[5].Y[0] == 130 && l[1].Y[0] == 9 {
			found = append(found, coins)
		}
	}
	if len(found) != 1 {
		t.Fatal(found)
	}
	want(t, "Explain", got, e, found[0], api.OK)
}

// P2.15: ErrLong comes before ErrRange, that before ErrMany, and all of them before the faults of the shares.
func TestExplainErrors(t *testing.T) {
	faulty := []api.Share{{X: 0, Y: make([]byte, 300)}, {X: 0}, {X: 17}}
	for _, length := range []int{0, 1, 256, 257, 100000} {
		for _, k := range edgeInts {
			for count := range 4 {
				got, e := algebra.Explain(faulty[:count], k, make([]byte, length))
				what := fmt.Sprintf("Explain of %d shares, k = %d, for %d bytes", count, k, length)
				switch {
				case length > 256:
					want(t, what, got, e, nil, api.ErrLong)
				case k < 1 || k > 16:
					want(t, what, got, e, nil, api.ErrRange)
				case count >= k:
					want(t, what, got, e, nil, api.ErrMany)
				case count > 0:
					want(t, what, got, e, nil, api.ErrArg)
				default:
					want(t, what, got, e, make([]byte, (k-1)*length), api.OK)
				}
			}
		}
	}
}

// P2.21: what a coalition sees of one secret with the coins c, it sees of the other one with c xor d.
func TestWhatACoalitionSees(t *testing.T) {
	r := newRand()
	for range 400 {
		length, n := r.IntN(9), 1+r.IntN(16)
		k := 1 + r.IntN(n)
		a, b := randomBytes(r, length), randomBytes(r, length)
		coins := randomBytes(r, (k-1)*length)
		places := choose(r, split(t, make([]byte, length), n, 1, nil), r.IntN(k))
		d, e := algebra.Explain(places, k, xorBytes(a, b))
		if e != api.OK {
			t.Fatal(e)
		}
		one, other := split(t, a, n, k, coins), split(t, b, n, k, xorBytes(coins, d))
		for _, s := range places {
			if !bytes.Equal(one[s.X-1].Y, other[s.X-1].Y) {
				t.Fatalf("n = %d, k = %d: the share at %d differs", n, k, s.X)
			}
		}
	}
}

// P2.21: with one coin, one share fits each secret just as often.
func TestOneShareFitsEverySecret(t *testing.T) {
	for secret := range 256 {
		count := [256]int{}
		for coin := range 256 {
			count[split(t, []byte{byte(secret)}, 3, 2, []byte{byte(coin)})[2].Y[0]]++
		}
		for y, times := range count {
			if times != 1 {
				t.Fatalf("the secret %d has %d coins with the share %d", secret, times, y)
			}
		}
	}
}

// The chapter's examples of shares.
func TestShareExamples(t *testing.T) {
	l, e := algebra.Split([]byte{5}, 3, 2, []byte{3})
	wantShares(t, "Split", l, e, []api.Share{share(1, 6), share(2, 3), share(3, 0)}, api.OK)
	s, e := algebra.Join(l[:2], 2)
	want(t, "Join of two", s, e, []byte{5}, api.OK)
	s, e = algebra.Join(l, 2)
	want(t, "Join of three", s, e, []byte{5}, api.OK)
	l[2].Y[0] = 1
	s, e = algebra.Join(l, 2)
	want(t, "Join of a wrong one", s, e, nil, api.ErrSum)
	c, e := algebra.Explain(l[:1], 2, []byte{9})
	want(t, "Explain", c, e, []byte{15}, api.OK)
}
