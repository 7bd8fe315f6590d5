package exact_test

import (
	"math"
	"math/big"
	"math/bits"
	"testing"

	"waveplate/api"
	"waveplate/exact"
)

// samples returns how many sets of sample of total things have at most seen of the first bad things, and how many sets there are; it looks at all of them.
func samples(total, bad, sample, seen int) (int64, int64) {
	var few, all int64
	for set := range uint(1) << total {
		if bits.OnesCount(set) != sample {
			continue
		}
		all++
		if bits.OnesCount(set&(1<<bad-1)) <= seen {
			few++
		}
	}
	return few, all
}

// tailOf returns the tail, from the definition.
func tailOf(total, bad, sample, seen int) *big.Rat {
	sum := new(big.Int)
	for i := 0; i <= min(seen, sample); i++ {
		term := new(big.Int).Binomial(int64(bad), int64(i))
		sum.Add(sum, term.Mul(term, new(big.Int).Binomial(int64(total-bad), int64(sample-i))))
	}
	return new(big.Rat).SetFrac(sum, new(big.Int).Binomial(int64(total), int64(sample)))
}

// P1.8.
func TestBinomial(t *testing.T) {
	for n := 0; n <= api.MaxBlock; n += 1 + n/7 {
		for k := range n + 3 {
			got, e := exact.Binomial(n, k)
			want := new(big.Int)
			if k <= n {
				want.Binomial(int64(n), int64(k))
			}
			wantBig(t, "Binomial", got, e, want)
		}
	}
	for _, n := range []int{0, 1, 5, api.MaxBlock} {
		for _, k := range []int{-1, math.MinInt, n + 1, math.MaxInt} {
			got, e := exact.Binomial(n, k)
			wantNat(t, "no sets", got, e, nil, api.OK)
		}
	}
	got, e := exact.Binomial(512, 256)
	wantBig(t, "512 over 256", got, e, new(big.Int).Binomial(512, 256))
	for _, n := range []int{-1, math.MinInt, api.MaxBlock + 1, math.MaxInt} {
		for _, k := range []int{-1, 0, 1, math.MaxInt} {
			got, e := exact.Binomial(n, k)
			wantNat(t, "n out of range", got, e, nil, api.ErrRange)
		}
	}
}

// P1.8.
func TestBall(t *testing.T) {
	for n := 0; n <= api.MaxBlock; n += 1 + n/7 {
		want := new(big.Int)
		for k := range n + 1 {
			want.Add(want, new(big.Int).Binomial(int64(n), int64(k)))
			got, e := exact.Ball(n, k)
			wantBig(t, "Ball", got, e, want)
		}
		for _, k := range []int{n, n + 1, math.MaxInt} {
			got, e := exact.Ball(n, k)
			wantNat(t, "the whole ball", got, e, power(n), api.OK)
		}
		for _, k := range []int{-1, math.MinInt} {
			got, e := exact.Ball(n, k)
			wantNat(t, "no ball", got, e, nil, api.OK)
		}
	}
	for _, n := range []int{-1, math.MinInt, api.MaxBlock + 1, math.MaxInt} {
		for _, k := range []int{-1, 0, 1, math.MaxInt} {
			got, e := exact.Ball(n, k)
			wantNat(t, "n out of range", got, e, nil, api.ErrRange)
		}
	}
}

// P1.12: all bit strings of up to 12 bits are counted.
func TestCounting(t *testing.T) {
	for n := range 13 {
		var sets, balls [14]uint64
		for s := range uint(1) << n {
			sets[bits.OnesCount(s)]++
			for k := bits.OnesCount(s); k < len(balls); k++ {
				balls[k]++
			}
		}
		for k := range sets {
			got, e := exact.Binomial(n, k)
			wantNat(t, "sets", got, e, exact.Of(sets[k]), api.OK)
			got, e = exact.Ball(n, k)
			wantNat(t, "strings", got, e, exact.Of(balls[k]), api.OK)
		}
	}
}

// P1.12.
func TestPascal(t *testing.T) {
	for n := 0; n < api.MaxBlock; n += 1 + n/9 {
		for k := range n + 2 {
			a, _ := exact.Binomial(n, k)
			b, _ := exact.Binomial(n, k+1)
			sum, _ := exact.Add(a, b)
			got, e := exact.Binomial(n+1, k+1)
			wantNat(t, "C(n + 1, k + 1)", got, e, sum, api.OK)
		}
	}
}

// P1.9 and P1.13: all sets of up to 8 things are looked at.
func TestTailCountsSamples(t *testing.T) {
	for total := range 9 {
		for bad := range total + 1 {
			for sample := range total + 1 {
				for seen := -1; seen <= total+1; seen++ {
					few, all := samples(total, bad, sample, seen)
					got, e := exact.Tail(total, bad, sample, seen)
					wantRat(t, "Tail", got, e, big.NewRat(few, all))
				}
			}
		}
	}
}

// P1.9.
func TestTailOfManyThings(t *testing.T) {
	r := newRand()
	for range 300 {
		total := r.IntN(api.MaxBlock + 1)
		bad, sample := r.IntN(total+1), r.IntN(total+1)
		seen := r.IntN(min(bad, sample) + 2)
		got, e := exact.Tail(total, bad, sample, seen)
		wantRat(t, "Tail", got, e, tailOf(total, bad, sample, seen))
	}
	got, e := exact.Tail(512, 256, 256, 127)
	wantRat(t, "Tail(512, 256, 256, 127)", got, e, tailOf(512, 256, 256, 127))
}

// P1.9: numbers at the ends of their ranges, and beyond.
func TestTailRanges(t *testing.T) {
	for _, x := range [][3]int{
		{-1, 0, 0}, {math.MinInt, 0, 0}, {513, 0, 0}, {math.MaxInt, 1, 1}, {513, 513, 513}, {4, 5, 2}, {4, -1, 2}, {4, 2, 5}, {4, 2, -1},
		{0, 1, 0}, {0, 0, 1}, {4, math.MaxInt, 2}, {4, math.MinInt, 2}, {4, 2, math.MaxInt}, {4, 2, math.MinInt},
	} {
		for _, seen := range []int{-1, 0, 1, math.MaxInt} {
			got, e := exact.Tail(x[0], x[1], x[2], seen)
			wantFrac(t, "Tail out of range", got, e, api.Frac{}, api.ErrRange)
		}
	}
	for _, x := range [][3]int{{0, 0, 0}, {4, 0, 0}, {4, 4, 4}, {4, 0, 4}, {4, 4, 0}, {4, 2, 2}, {512, 512, 512}, {512, 256, 256}} {
		for _, seen := range []int{-1, math.MinInt} {
			got, e := exact.Tail(x[0], x[1], x[2], seen)
			wantFrac(t, "below 0", got, e, frac(0, 1), api.OK)
		}
		for _, seen := range []int{x[2], x[2] + 1, math.MaxInt} {
			got, e := exact.Tail(x[0], x[1], x[2], seen)
			wantFrac(t, "all of the sample", got, e, frac(1, 1), api.OK)
		}
	}
}

// P1.13.
func TestTailGrowsWithSeenAndShrinksWithBad(t *testing.T) {
	tail := func(total, bad, sample, seen int) api.Frac {
		f, e := exact.Tail(total, bad, sample, seen)
		if e != api.OK {
			t.Fatalf("Tail(%d, %d, %d, %d): %d", total, bad, sample, seen, e)
		}
		return f
	}
	less := func(f, g api.Frac) bool { c, _ := exact.FracCompare(f, g); return c < 0 }
	const total = 24
	for bad := range total + 1 {
		for sample := range total + 1 {
			for seen := range sample + 1 {
				f := tail(total, bad, sample, seen)
				if bad < total && less(f, tail(total, bad+1, sample, seen)) {
					t.Errorf("%d bad things more than %d: the tail of %d and %d grows", bad+1, bad, sample, seen)
				}
				if less(tail(total, bad, sample, seen+1), f) {
					t.Errorf("the tail of %d, %d and %d shrinks", bad, sample, seen)
				}
				swapped := tail(total, sample, bad, seen)
				wantFrac(t, "bad and sample exchanged", swapped, api.OK, f, api.OK)
			}
		}
	}
}

// P1.10 and P1.14: the bound is found by looking at every number of bad things.
func TestBoundOfFewThings(t *testing.T) {
	var limits []api.Frac
	for d := range uint64(8) {
		for n := range d {
			limits = append(limits, frac(n, d))
		}
	}
	limits = append(limits, frac(1, 252), frac(1, 1000000), frac(251, 252), api.Frac{Num: api.Nat{1, 0}, Den: api.Nat{6, 0, 0}})
	for total := range 9 {
		for sample := range total + 1 {
			for seen := range sample + 1 {
				for _, eps := range limits {
					want := -1
					for bad := range total + 1 {
						if tailOf(total, bad, sample, seen).Cmp(toRat(eps)) > 0 {
							want = bad
						}
					}
					if n, e := exact.Bound(total, sample, seen, eps); n != want || e != api.OK {
						t.Errorf("Bound(%d, %d, %d, %v): %d, %d, want %d", total, sample, seen, eps, n, e, want)
					}
				}
			}
		}
	}
}

// P1.10 and P1.14: above the bound the tail is at most eps, at the bound it is greater.
func TestBoundOfManyThings(t *testing.T) {
	r := newRand()
	for range 150 {
		total := r.IntN(api.MaxBlock + 1)
		sample := r.IntN(total + 1)
		seen := r.IntN(1 + r.IntN(sample+1))
		eps := api.Frac{Num: api.Nat{1 + r.Uint32N(9)}, Den: power(r.IntN(60) + 4)}
		n, e := exact.Bound(total, sample, seen, eps)
		if e != api.OK || n < seen || n > total {
			t.Fatalf("Bound(%d, %d, %d, %v): %d, %d", total, sample, seen, eps, n, e)
		}
		if tailOf(total, n, sample, seen).Cmp(toRat(eps)) <= 0 {
			t.Errorf("Bound(%d, %d, %d, %v): %d is too great", total, sample, seen, eps, n)
		}
		if n < total && tailOf(total, n+1, sample, seen).Cmp(toRat(eps)) > 0 {
			t.Errorf("Bound(%d, %d, %d, %v): %d is too small", total, sample, seen, eps, n)
		}
	}
}

// P1.14.
func TestBoundDoesNotShrink(t *testing.T) {
	bound := func(sample, seen int, eps api.Frac) int {
		n, e := exact.Bound(40, sample, seen, eps)
		if e != api.OK {
			t.Fatalf("Bound(40, %d, %d, %v): %d", sample, seen, eps, e)
		}
		return n
	}
	for sample := range 41 {
		for seen := range sample + 1 {
			last := 0
			for k := uint64(1); k < 1<<30; k *= 8 {
				eps := frac(1, k+1)
				n := bound(sample, seen, eps)
				if n < last {
					t.Errorf("sample %d, seen %d: the bound %d for 1/%d", sample, seen, n, k+1)
				}
				if seen < sample && bound(sample, seen+1, eps) < n {
					t.Errorf("sample %d, eps 1/%d: the bound shrinks after %d", sample, k+1, seen)
				}
				if n < seen {
					t.Errorf("sample %d, seen %d, eps 1/%d: the bound %d", sample, seen, k+1, n)
				}
				last = n
			}
		}
	}
}

// P1.10: the ends of the ranges, and the greatest fractions.
func TestBoundAtItsLimits(t *testing.T) {
	below := api.Frac{Num: append(api.Nat{topLimb - 1}, full(63)...), Den: full(64)}
	tiny := api.Frac{Num: api.Nat{1}, Den: full(64)}
	for _, x := range []struct {
		total, sample, seen int
		eps                 api.Frac
		want                int
	}{
		{0, 0, 0, frac(0, 1), 0},
		{4, 0, 0, frac(1, 2), 4},
		{4, 4, 2, frac(1, 2), 2},
		{4, 4, 4, frac(1, 2), 4},
		{4, 2, 2, frac(1, 2), 4},
		{4, 2, 0, frac(0, 7), 2},
		{4, 2, 0, below, 0},
		{512, 256, 0, frac(0, 1), 256},
		{512, 256, 0, tiny, 256},
		{512, 256, 256, below, 512},
		{512, 512, 0, tiny, 0},
		{512, 512, 512, tiny, 512},
	} {
		if n, e := exact.Bound(x.total, x.sample, x.seen, x.eps); n != x.want || e != api.OK {
			t.Errorf("Bound(%d, %d, %d, %v): %d, %d, want %d", x.total, x.sample, x.seen, x.eps, n, e, x.want)
		}
	}
}

// P1.10: the order of its errors.
func TestBoundErrors(t *testing.T) {
	long := api.Frac{Num: make(api.Nat, 65), Den: nil}
	for _, x := range []struct {
		total, sample, seen int
		eps                 api.Frac
		want                api.Errno
	}{
		{-1, 0, 0, long, api.ErrLong},
		{4, 2, 0, api.Frac{Num: api.Nat{1}, Den: make(api.Nat, 65)}, api.ErrLong},
		{-1, 0, 0, frac(1, 0), api.ErrZero},
		{4, 2, 3, frac(0, 0), api.ErrZero},
		{-1, 0, 0, frac(1, 1), api.ErrRange},
		{-1, 0, 0, frac(1, 2), api.ErrRange},
		{513, 0, 0, frac(1, 2), api.ErrRange},
		{math.MaxInt, 0, 0, frac(1, 2), api.ErrRange},
		{math.MinInt, 0, 0, frac(1, 2), api.ErrRange},
		{4, -1, 0, frac(1, 2), api.ErrRange},
		{4, 5, 0, frac(1, 2), api.ErrRange},
		{4, 5, 0, frac(2, 1), api.ErrRange},
		{4, math.MaxInt, 0, frac(1, 2), api.ErrRange},
		{4, 2, -1, frac(1, 2), api.ErrRange},
		{4, 2, 3, frac(1, 2), api.ErrRange},
		{4, 2, 3, frac(1, 1), api.ErrRange},
		{4, 2, math.MaxInt, frac(1, 2), api.ErrRange},
		{4, 2, math.MinInt, frac(1, 2), api.ErrRange},
		{4, 2, 0, frac(1, 1), api.ErrArg},
		{4, 2, 0, frac(7, 7), api.ErrArg},
		{4, 2, 0, frac(3, 2), api.ErrArg},
		{4, 2, 0, api.Frac{Num: full(64), Den: full(64)}, api.ErrArg},
	} {
		if n, e := exact.Bound(x.total, x.sample, x.seen, x.eps); n != 0 || e != x.want {
			t.Errorf("Bound(%d, %d, %d, %v): %d, %d, want %d", x.total, x.sample, x.seen, x.eps, n, e, x.want)
		}
	}
}

// The rows of the chapter's examples about sampling.
func TestSamplingExamples(t *testing.T) {
	got, e := exact.Tail(4, 1, 2, 0)
	wantFrac(t, "Tail(4, 1, 2, 0)", got, e, frac(1, 2), api.OK)
	got, e = exact.Tail(4, 2, 2, 0)
	wantFrac(t, "Tail(4, 2, 2, 0)", got, e, frac(1, 6), api.OK)
	got, e = exact.Tail(4, 2, 2, 1)
	wantFrac(t, "Tail(4, 2, 2, 1)", got, e, frac(5, 6), api.OK)
	for _, x := range []struct {
		eps  api.Frac
		want int
	}{{frac(1, 6), 1}, {frac(1, 7), 2}, {frac(0, 1), 2}} {
		if n, e := exact.Bound(4, 2, 0, x.eps); n != x.want || e != api.OK {
			t.Errorf("Bound(4, 2, 0, %v): %d, %d, want %d", x.eps, n, e, x.want)
		}
	}
	for _, x := range []struct {
		n, k int
		want uint64
	}{{5, 2, 10}, {5, 6, 0}} {
		a, e := exact.Binomial(x.n, x.k)
		wantNat(t, "Binomial", a, e, exact.Of(x.want), api.OK)
	}
	a, e := exact.Binomial(513, 1)
	wantNat(t, "Binomial(513, 1)", a, e, nil, api.ErrRange)
	a, e = exact.Ball(8, 1)
	wantNat(t, "Ball(8, 1)", a, e, exact.Of(9), api.OK)
	a, e = exact.Ball(8, 9)
	wantNat(t, "Ball(8, 9)", a, e, exact.Of(256), api.OK)
}
