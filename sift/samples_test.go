package sift_test

import (
	"fmt"
	"math/rand/v2"
	"slices"
	"testing"

	"waveplate/api"
	"waveplate/sift"
)

func checkSample(t *testing.T, n, k int, seed uint64) {
	t.Helper()
	l, rest, e := sift.Sample(n, k, seed)
	sample, others, err := modelSample(n, k, seed)
	what := fmt.Sprintf("Sample of %d, %d, %d", n, k, seed)
	want(t, what, l, e, sample, err)
	want(t, what+", the rest", rest, e, others, err)
}

func checkRate(t *testing.T, total, sample, seen int, eps api.Frac) api.Errno {
	t.Helper()
	x, e := sift.Rate(total, sample, seen, eps)
	value, err := modelRate(total, sample, seen, eps)
	wantOne(t, fmt.Sprintf("Rate of %d, %d, %d, %v", total, sample, seen, eps), x, e, value, err)
	return err
}

func checkJudge(t *testing.T, sample, seen int, limit api.Frac) api.Errno {
	t.Helper()
	e, err := sift.Judge(sample, seen, limit), modelJudge(sample, seen, limit)
	wantOne(t, fmt.Sprintf("Judge of %d, %d, %v", sample, seen, limit), e, e, err, err)
	return err
}

func checkTest(t *testing.T, a, b []bool, k int, seed uint64, eps, limit api.Frac) api.Errno {
	t.Helper()
	x, c, d, e := sift.Test(a, b, k, seed, eps, limit)
	value, first, second, err := modelTest(a, b, k, seed, eps, limit)
	what := fmt.Sprintf("Test of %s, %s, %d, %d, %v, %v", short(a), short(b), k, seed, eps, limit)
	wantOne(t, what, x, e, value, err)
	want(t, what+", the rest of a", c, e, first, err)
	want(t, what+", the rest of b", d, e, second, err)
	return err
}

// anyFrac returns a small fraction, in some cases one that is not valid.
func anyFrac(r *rand.Rand) api.Frac {
	wrong := wrongFracs()
	switch r.IntN(16) {
	case 0:
		return oneOf(r, wrong[api.ErrLong])
	case 1:
		return oneOf(r, wrong[api.ErrZero])
	case 2:
		return frac(uint64(1+r.IntN(9)), uint64(1+r.IntN(9)))
	case 3:
		return frac(0, uint64(1+r.IntN(9)))
	}
	den := uint64(1 + r.IntN(40))
	return frac(r.Uint64N(den), den)
}

// P4.12.
func TestSample(t *testing.T) {
	r := newRand()
	for range 500 {
		n := r.IntN(60)
		checkSample(t, n, r.IntN(n+1), r.Uint64())
	}
	for n := range 8 {
		for k := range n + 1 {
			checkSample(t, n, k, 5)
		}
	}
	for _, n := range edgeInts {
		for _, k := range edgeInts {
			checkSample(t, n, k, 1)
		}
	}
	checkSample(t, 512, 512, 1)
	checkSample(t, 512, 0, 1)
	checkSample(t, 512, 256, 1<<64-1)
}

// P4.12: other seeds have other samples, and each index is in some of them.
func TestSamplesOfSeeds(t *testing.T) {
	var counts [10]int
	for seed := range uint64(1000) {
		l, _, _ := sift.Sample(10, 3, seed)
		for _, i := range l {
			counts[i]++
		}
	}
	for i, n := range counts {
		if n < 200 || n > 400 {
			t.Errorf("%d of 1000 samples have the index %d", n, i)
		}
	}
}

// P4.13: Rate, for any arguments.
func TestRate(t *testing.T) {
	r := newRand()
	met := tally{}
	for range 3000 {
		total := r.IntN(50)
		sample := r.IntN(total + 1)
		seen := r.IntN(sample + 1)
		met[checkRate(t, orEdge(r, total), orEdge(r, sample), orEdge(r, seen), anyFrac(r))]++
	}
	met.wantAll(t, api.OK, api.ErrLong, api.ErrZero, api.ErrRange, api.ErrArg)
	checkRate(t, 512, 128, 5, frac(1, 1000000))
	checkRate(t, 512, 512, 512, frac(0, 1))
	checkRate(t, 0, 0, 0, frac(0, 1))
}

// P4.13: the errors of Rate, in their order.
func TestRateErrors(t *testing.T) {
	for err, l := range wrongFracs() {
		for _, f := range l {
			x, e := sift.Rate(-1, -1, -1, f)
			wantOne(t, "Rate of a wrong fraction", x, e, api.Estimate{}, err)
		}
	}
	for _, x := range []struct {
		total, sample, seen int
		eps                 api.Frac
		err                 api.Errno
	}{
		{513, 1, 0, frac(1, 2), api.ErrRange},
		{-1, 0, 0, frac(1, 2), api.ErrRange},
		{4, 5, 0, frac(1, 2), api.ErrRange},
		{4, -1, 0, frac(1, 2), api.ErrRange},
		{4, 2, 3, frac(1, 1), api.ErrRange},
		{4, 2, -1, frac(1, 1), api.ErrRange},
		{4, 2, 2, frac(1, 1), api.ErrArg},
		{4, 2, 2, frac(5, 4), api.ErrArg},
	} {
		got, e := sift.Rate(x.total, x.sample, x.seen, x.eps)
		wantOne(t, fmt.Sprint("Rate of ", x), got, e, api.Estimate{}, x.err)
	}
}

// P4.13: Judge, for any arguments.
func TestJudge(t *testing.T) {
	r := newRand()
	met := tally{}
	for range 20000 {
		sample := r.IntN(40)
		met[checkJudge(t, orEdge(r, sample), orEdge(r, r.IntN(sample+1)), anyFrac(r))]++
	}
	met.wantAll(t, api.OK, api.ErrLong, api.ErrZero, api.ErrRange, api.ErrNoise)
	for sample := range 41 {
		for seen := range sample + 1 {
			for den := range uint64(40) {
				checkJudge(t, sample, seen, frac(den/3, den+1))
				checkJudge(t, sample, seen, frac(uint64(seen), den+1))
			}
		}
	}
}

// P4.13: limits of any size, also such whose products are too long for a number.
func TestLongLimits(t *testing.T) {
	most, least := api.Frac{Num: full(64), Den: api.Nat{1}}, api.Frac{Num: api.Nat{1}, Den: full(64)}
	almost := api.Frac{Num: full(64), Den: full(64)}
	almost.Num[0]--
	for _, x := range []struct {
		limit        api.Frac
		sample, seen int
		err          api.Errno
	}{
		{most, 512, 512, api.OK},
		{most, 0, 0, api.OK},
		{least, 512, 0, api.OK},
		{least, 512, 1, api.ErrNoise},
		{least, 0, 0, api.OK},
		{almost, 512, 512, api.ErrNoise},
		{almost, 512, 511, api.OK},
		{api.Frac{Num: full(64), Den: full(64)}, 512, 512, api.OK},
		{api.Frac{Num: api.Nat{1, 0, 0}, Den: api.Nat{2, 0}}, 512, 256, api.OK},
		{api.Frac{Num: api.Nat{1, 0, 0}, Den: api.Nat{2, 0}}, 512, 257, api.ErrNoise},
		{api.Frac{Num: make(api.Nat, 64), Den: full(64)}, 1, 0, api.OK},
		{api.Frac{Num: make(api.Nat, 64), Den: full(64)}, 1, 1, api.ErrNoise},
		{frac(0, 1), 0, 0, api.OK},
		{frac(7, 1), 3, 3, api.OK},
	} {
		e := sift.Judge(x.sample, x.seen, x.limit)
		wantOne(t, fmt.Sprintf("Judge of %d, %d, %v", x.sample, x.seen, x.limit), e, e, x.err, x.err)
		checkJudge(t, x.sample, x.seen, x.limit)
	}
}

// P4.13: the errors of Judge, in their order.
func TestJudgeErrors(t *testing.T) {
	for err, l := range wrongFracs() {
		for _, f := range l {
			e := sift.Judge(-1, -1, f)
			wantOne(t, "Judge of a wrong fraction", e, e, err, err)
		}
	}
	for _, sample := range edgeInts {
		for _, seen := range edgeInts {
			checkJudge(t, sample, seen, frac(0, 1))
			checkJudge(t, sample, seen, frac(1, 3))
		}
	}
}

// P4.14: any arguments.
func TestTest(t *testing.T) {
	r := newRand()
	met := tally{}
	for range 4000 {
		n := r.IntN(40)
		if rarely(r, 20) {
			n = 511 + r.IntN(3)
		}
		a := randomBits(r, n)
		b := slices.Clone(a)
		for range r.IntN(4) {
			if n > 0 {
				i := r.IntN(n)
				b[i] = !b[i]
			}
		}
		if rarely(r, 8) {
			b = randomBits(r, r.IntN(40))
		}
		met[checkTest(t, a, b, orEdge(r, r.IntN(n+1)), r.Uint64(), anyFrac(r), anyFrac(r))]++
	}
	met.wantAll(t, api.OK, api.ErrEqual, api.ErrRange, api.ErrLong, api.ErrZero, api.ErrArg, api.ErrNoise)
}

// P4.14: errors, in their order.
func TestTestErrors(t *testing.T) {
	a, b, long := make([]bool, 12), slices.Repeat([]bool{true}, 12), make([]bool, 513)
	half, one := frac(1, 2), frac(1, 1)
	wrong := []api.Frac{half, one}
	for _, l := range wrongFracs() {
		wrong = append(wrong, l...)
	}
	for _, eps := range wrong {
		for _, limit := range wrong {
			for _, k := range []int{-1, 0, 5, 12, 13} {
				checkTest(t, a, b, k, 1, eps, limit)
				checkTest(t, a, a, k, 1, eps, limit)
				checkTest(t, a, b[:11], k, 1, eps, limit)
				checkTest(t, nil, nil, k, 1, eps, limit)
				checkTest(t, long, long, k, 1, eps, limit)
				checkTest(t, long, long[1:], k, 1, eps, limit)
			}
		}
	}
	for _, k := range edgeInts {
		checkTest(t, a, b, k, 1, half, one)
		checkTest(t, long[1:], long[1:], k, 1, half, one)
	}
	for i, err := range map[int]api.Errno{0: api.ErrEqual, 1: api.ErrRange, 2: api.ErrLong, 3: api.ErrZero, 4: api.ErrArg, 5: api.ErrNoise, 6: api.OK} {
		// With i the first i faults are gone.
		y, k, eps, limit := b[:11], 13, api.Frac{Num: full(65)}, api.Frac{Den: full(65)}
		if i > 0 {
			y = b
		}
		if i > 1 {
			k = 12
		}
		if i > 2 {
			eps = frac(1, 0)
		}
		if i > 3 {
			eps = one
		}
		if i > 4 {
			eps, limit = half, frac(11, 12)
		}
		if i > 5 {
			limit = one
		}
		if got := checkTest(t, a, y, k, 1, eps, limit); got != err {
			t.Errorf("with %d faults less: %d, want %d", i, got, err)
		}
	}
}

// The chapter's examples of samples.
func TestSampleExamples(t *testing.T) {
	x, e := sift.Rate(4, 2, 0, frac(1, 6))
	wantOne(t, "Rate", x, e, api.Estimate{Total: 4, Sample: 2, Seen: 0, Bad: 1, Rest: 1}, api.OK)
	for _, j := range []struct {
		sample, seen int
		limit        api.Frac
		err          api.Errno
	}{{10, 1, frac(1, 10), api.OK}, {10, 2, frac(1, 10), api.ErrNoise}, {0, 0, frac(0, 1), api.OK}} {
		e := sift.Judge(j.sample, j.seen, j.limit)
		wantOne(t, fmt.Sprint("Judge of ", j), e, e, j.err, j.err)
	}
	x, c, d, e := sift.Test(bitsOf("1010"), bitsOf("1010"), 0, 1, frac(0, 1), frac(0, 1))
	wantOne(t, "Test", x, e, api.Estimate{Total: 4, Bad: 4, Rest: 4}, api.OK)
	want(t, "the rest of a", c, e, bitsOf("1010"), api.OK)
	want(t, "the rest of b", d, e, bitsOf("1010"), api.OK)
}
