package reconcile_test

import (
	"fmt"
	"math"
	"slices"
	"testing"

	"waveplate/api"
	"waveplate/reconcile"
)

func checkMatrix(t *testing.T, c api.Code) {
	t.Helper()
	l, e := reconcile.Matrix(c)
	list, err := modelMatrix(c)
	if e != err || !slices.EqualFunc(l, list, slices.Equal) {
		t.Errorf("Matrix of %v: %v, %d, want %v, %d", c, l, e, list, err)
	}
}

func checkSyndrome(t *testing.T, c api.Code, b []bool) api.Errno {
	t.Helper()
	s, e := reconcile.Syndrome(c, b)
	list, err := modelSyndrome(c, b)
	want(t, fmt.Sprintf("Syndrome of %v, %s", c, short(b)), s, e, list, err)
	return err
}

func checkDecode(t *testing.T, c api.Code, b, syndrome []bool, rounds int) (int, api.Errno) {
	t.Helper()
	what := fmt.Sprintf("Decode of %v, %s, %s, %d", c, short(b), short(syndrome), rounds)
	x, n, e := reconcile.Decode(c, b, syndrome, rounds)
	list, value, err := modelDecode(c, b, syndrome, rounds)
	want(t, what, x, e, list, err)
	wantOne(t, what, n, e, value, err)
	return value, err
}

func checkNearest(t *testing.T, c api.Code, b, syndrome []bool, most int) (int, api.Errno) {
	t.Helper()
	what := fmt.Sprintf("Nearest of %v, %s, %s, %d", c, short(b), short(syndrome), most)
	x, n, e := reconcile.Nearest(c, b, syndrome, most)
	list, value, err := modelNearest(c, b, syndrome, most)
	want(t, what, x, e, list, err)
	wantOne(t, what, n, e, value, err)
	return value, err
}

// P5.8: which codes are valid; for the others all functions return ErrArg before all else.
func TestCheckCode(t *testing.T) {
	for _, bits := range edgeInts {
		for _, checks := range edgeInts {
			for _, degree := range edgeInts {
				c := api.Code{Bits: bits, Checks: checks, Degree: degree, Seed: 3}
				wantOne(t, fmt.Sprintf("CheckCode of %v", c), 0, reconcile.CheckCode(c), 0, modelCheckCode(c))
			}
		}
	}
	for _, c := range wrongCodes() {
		checkMatrix(t, c)
		for _, n := range []int{0, 8, 513} {
			checkSyndrome(t, c, make([]bool, n))
			checkDecode(t, c, make([]bool, n), nil, -1)
			checkNearest(t, c, make([]bool, n), nil, -1)
		}
	}
}

// P5.8: any codes.
func TestMatrix(t *testing.T) {
	r := newRand()
	for range 2000 {
		checkMatrix(t, randomCode(r, 30, 12))
	}
	for _, seed := range edgeSeeds {
		checkMatrix(t, api.Code{Bits: 512, Checks: 256, Degree: 4, Seed: seed})
		checkMatrix(t, api.Code{Bits: 512, Checks: 1, Degree: 1, Seed: seed})
		checkMatrix(t, api.Code{Bits: 1, Checks: 256, Degree: 1, Seed: seed})
	}
}

// P5.8: checks that another program computed.
func TestKnownMatrix(t *testing.T) {
	for _, x := range []struct {
		c    api.Code
		want [][]int
	}{
		{api.Code{Bits: 8, Checks: 6, Degree: 2, Seed: 5}, [][]int{{2, 4, 7}, {4, 5, 7}, {0, 1, 6}, {0, 6}, {1, 2, 3, 5}, {3}}},
		{api.Code{Bits: 10, Checks: 5, Degree: 3, Seed: math.MaxUint64}, [][]int{{0, 3, 4, 6, 9}, {2, 3, 5, 7, 8}, {0, 1, 5, 6, 7, 9}, {0, 1, 2, 3, 4, 7, 8}, {1, 2, 4, 5, 6, 8, 9}}},
	} {
		l, e := reconcile.Matrix(x.c)
		if e != api.OK || !slices.EqualFunc(l, x.want, slices.Equal) {
			t.Errorf("Matrix of %v: %v, %d", x.c, l, e)
		}
	}
}

// P5.8: any codes and strings.
func TestSyndrome(t *testing.T) {
	r := newRand()
	met := tally{}
	for range 4000 {
		c := randomCode(r, 30, 12)
		n := c.Bits
		switch r.IntN(12) {
		case 0:
			c = oneOf(r, wrongCodes())
		case 1:
			n = oneOf(r, []int{0, n - 1, n + 1, 513})
		}
		met[checkSyndrome(t, c, randomBits(r, n))]++
	}
	met.wantAll(t, api.OK, api.ErrArg, api.ErrEqual)
	c := api.Code{Bits: 512, Checks: 256, Degree: 4, Seed: 77}
	checkSyndrome(t, c, randomBits(r, 512))
}

// P5.9 and P5.10: any codes and strings, with the syndromes of similar strings and others.
func TestDecodeAndNearest(t *testing.T) {
	r := newRand()
	decoded, nearest := tally{}, tally{}
	rounds, distances := map[int]int{}, map[int]int{}
	for range 5000 {
		c := randomCode(r, 12, 10)
		truth := randomBits(r, c.Bits)
		b := noisy(r, truth, 1+r.IntN(15))
		syndrome, _ := modelSyndrome(c, truth)
		switch r.IntN(24) {
		case 0, 1:
			syndrome = randomBits(r, c.Checks)
		case 2:
			syndrome = syndrome[1:]
		case 3:
			b = append(b, true)
		case 4:
			c = oneOf(r, wrongCodes())
		}
		n, e := checkDecode(t, c, b, syndrome, orEdge(r, r.IntN(6)))
		decoded[e]++
		if e == api.OK {
			rounds[n]++
		}
		n, e = checkNearest(t, c, b, syndrome, orEdge(r, r.IntN(4)))
		nearest[e]++
		if e == api.OK {
			distances[n]++
		}
	}
	decoded.wantAll(t, api.OK, api.ErrArg, api.ErrEqual, api.ErrRange, api.ErrNoise)
	nearest.wantAll(t, api.OK, api.ErrArg, api.ErrEqual, api.ErrRange, api.ErrNone)
	for n := range 4 {
		if rounds[n] < 5 || distances[n] < 5 {
			t.Errorf("%d rounds %d times, the distance %d %d times", n, rounds[n], n, distances[n])
		}
	}
}

// P5.9: each number of rounds; the last look does not count as one.
func TestRounds(t *testing.T) {
	r := newRand()
	several := 0
	for range 300 {
		c := api.Code{Bits: 60, Checks: 50, Degree: 3, Seed: r.Uint64()}
		truth := randomBits(r, 60)
		b := noisy(r, truth, 12)
		s, _ := modelSyndrome(c, truth)
		n, e := checkDecode(t, c, b, s, 64)
		if e != api.OK {
			continue
		}
		checkDecode(t, c, b, s, n)
		if n > 0 {
			_, e := checkDecode(t, c, b, s, n-1)
			wantOne(t, "a round less", 0, e, 0, api.ErrNoise)
		}
		if n > 2 {
			several++
		}
	}
	if several < 5 {
		t.Errorf("only %d strings needed more than two rounds", several)
	}
}

// P5.9: unsatisfied checks in which there is no bit.
func TestNoVotes(t *testing.T) {
	c := api.Code{Bits: 1, Checks: 3, Degree: 1, Seed: 1}
	checks, _ := reconcile.Matrix(c)
	for _, b := range allBits(1) {
		for _, s := range allBits(3) {
			for rounds := range 4 {
				checkDecode(t, c, b, s, rounds)
				checkNearest(t, c, b, s, min(rounds, 3))
			}
		}
	}
	s := make([]bool, 3)
	s[slices.IndexFunc(checks, func(l []int) bool { return len(l) == 0 })] = true
	_, e := checkDecode(t, c, make([]bool, 1), s, 64)
	wantOne(t, "Decode", 0, e, 0, api.ErrNoise)
}

// P5.9 and P5.10: the lengths come before the rounds, and before the distance, whose limit depends on the bits.
func TestDecodingErrors(t *testing.T) {
	r := newRand()
	for _, bits := range []int{1, 63, 64, 65, 512} {
		c := api.Code{Bits: bits, Checks: 20, Degree: 3, Seed: 6}
		b := randomBits(r, bits)
		s, _ := modelSyndrome(c, b)
		for _, n := range edgeInts {
			checkDecode(t, c, b, s, n)
			checkDecode(t, c, b[1:], s, n)
			checkDecode(t, c, append(b[:bits:bits], true), s, n)
			checkDecode(t, c, b, s[1:], n)
			checkDecode(t, c, b, append(s[:20:20], true), n)
			_, _, err := modelNearest(c, b[1:], s, n)
			x, d, e := reconcile.Nearest(c, b[1:], s, n)
			want(t, "Nearest of a bit less", x, e, nil, err)
			wantOne(t, "Nearest of a bit less", d, e, 0, api.ErrEqual)
			x, d, e = reconcile.Nearest(c, b, append(s[:20:20], true), n)
			want(t, "Nearest of a check more", x, e, nil, api.ErrEqual)
			wantOne(t, "Nearest of a check more", d, e, 0, api.ErrEqual)
			x, d, e = reconcile.Nearest(c, b, s, n)
			if in(n, 0, 2) || n == 3 && bits <= 64 {
				want(t, "Nearest", x, e, b, api.OK)
				wantOne(t, "Nearest", d, e, 0, api.OK)
			} else {
				want(t, fmt.Sprintf("Nearest of %d bits, %d", bits, n), x, e, nil, api.ErrRange)
				wantOne(t, "Nearest", d, e, 0, api.ErrRange)
			}
		}
	}
}

// P5.10: among long strings the nearest one, and of several the first one.
func TestNearestOfLongStrings(t *testing.T) {
	r := newRand()
	for _, x := range []struct{ bits, checks, degree, wrong int }{{64, 40, 3, 3}, {64, 12, 2, 3}, {64, 256, 4, 3}, {65, 30, 2, 2}, {100, 12, 1, 2}} {
		c := api.Code{Bits: x.bits, Checks: x.checks, Degree: x.degree, Seed: r.Uint64()}
		truth := randomBits(r, x.bits)
		s, _ := modelSyndrome(c, truth)
		for range 3 {
			b := flip(truth, r.Perm(x.bits)[:x.wrong]...)
			if _, e := checkNearest(t, c, b, s, x.wrong); e != api.OK {
				t.Errorf("%v: %d", c, e)
			}
			checkNearest(t, c, b, s, x.wrong-1)
		}
	}
	c := api.Code{Bits: 512, Checks: 256, Degree: 4, Seed: 5}
	truth := randomBits(r, 512)
	s, _ := modelSyndrome(c, truth)
	for _, at := range [][]int{nil, {0}, {511}, {0, 511}, {510, 511}} {
		got, n, e := reconcile.Nearest(c, flip(truth, at...), s, 2)
		want(t, fmt.Sprint("with errors at ", at), got, e, truth, api.OK)
		wantOne(t, fmt.Sprint("with errors at ", at), n, e, len(at), api.OK)
	}
	got, n, e := reconcile.Nearest(c, flip(truth, 7, 8, 9), s, 2)
	want(t, "with three errors", got, e, nil, api.ErrNone)
	wantOne(t, "with three errors", n, e, 0, api.ErrNone)
}

// P5.10: with one check that has all bits, and a wrong parity, the first bit is inverted.
func TestNearestIsTheFirst(t *testing.T) {
	c := api.Code{Bits: 9, Checks: 1, Degree: 1}
	b := bitsOf("000110000")
	got, n, e := reconcile.Nearest(c, b, bitsOf("1"), 3)
	want(t, "Nearest", got, e, bitsOf("100110000"), api.OK)
	wantOne(t, "Nearest", n, e, 1, api.OK)
	got, n, e = reconcile.Nearest(c, b, bitsOf("0"), 3)
	want(t, "Nearest", got, e, b, api.OK)
	wantOne(t, "Nearest", n, e, 0, api.OK)
	got, n, e = reconcile.Nearest(c, b, bitsOf("1"), 0)
	want(t, "Nearest", got, e, nil, api.ErrNone)
	wantOne(t, "Nearest", n, e, 0, api.ErrNone)
	got, n, e = reconcile.Decode(c, b, bitsOf("1"), 1)
	want(t, "Decode inverts all bits with the most votes", got, e, bitsOf("111001111"), api.OK)
	wantOne(t, "Decode", n, e, 1, api.OK)
}

// The chapter's examples of codes.
func TestCodeExamples(t *testing.T) {
	wantOne(t, "CheckCode of the degree 5", 0, reconcile.CheckCode(api.Code{Bits: 8, Checks: 4, Degree: 5}), 0, api.ErrArg)
	for _, c := range []api.Code{{Bits: 8, Checks: 6, Degree: 2, Seed: 5}, {Bits: 512, Checks: 256, Degree: 4}, {Bits: 1, Checks: 1, Degree: 1}} {
		zero := make([]bool, c.Bits)
		s, e := reconcile.Syndrome(c, zero)
		want(t, "Syndrome", s, e, make([]bool, c.Checks), api.OK)
		b, n, e := reconcile.Decode(c, zero, s, 0)
		want(t, "Decode", b, e, zero, api.OK)
		wantOne(t, "Decode", n, e, 0, api.OK)
	}
}
