package sift_test

import (
	"fmt"
	"math/big"
	"math/bits"
	"math/rand/v2"
	"slices"
	"testing"

	"waveplate/algebra"
	"waveplate/api"
	"waveplate/exact"
	"waveplate/optics"
	"waveplate/sift"
)

// randomFlight returns a transmission of a random arrangement over a random channel.
func randomFlight(t *testing.T, r *rand.Rand, n int) api.Flight {
	t.Helper()
	o := randomDecoys(r)
	switch r.IntN(3) {
	case 0:
		o.Kind, o.Classes, o.Photons[1] = api.Pairs, [3]int{0, 0, 256}, [4]int{256}
	case 1:
		o.Eta, o.Dark = 256, 0
	}
	rules := []api.Rule{{Kind: api.RuleShift, A: 1 + r.IntN(16), B: r.IntN(2)}}
	for range r.IntN(4) {
		rules = append(rules, oneOf(r, []api.Rule{
			{Kind: api.RuleLoss, A: r.IntN(200)}, {Kind: api.RuleNoise, A: r.IntN(200)}, {Kind: api.RuleResend, To: n, A: 128},
			{Kind: api.RuleSplit, From: n / 2, To: n}, {Kind: api.RuleStarve, To: n, A: 100}, {Kind: api.RuleBlind, From: 10, To: 20, A: 1, B: 1},
		}))
	}
	f, e := optics.Run(o, rules[r.IntN(2):], n, [3]uint64{r.Uint64(), r.Uint64(), r.Uint64()})
	if e != api.OK {
		t.Fatalf("Run of %v, %v: %d", o, rules, e)
	}
	return f
}

// P4.15: both ends find just the slots that agree, and different bits just where they differ.
func TestBothEnds(t *testing.T) {
	r := newRand()
	agreed, differed := 0, 0
	for range 600 {
		n := r.IntN(120)
		f := randomFlight(t, r, n)
		from := r.IntN(n + 1)
		same, wrong, _ := optics.Agree(f.Pulses, f.Clicks, f.Shift)
		before := func(slot int) bool { return slot < from }
		same, wrong = slices.DeleteFunc(same, before), slices.DeleteFunc(wrong, before)

		heard, e := sift.Announce(f.Clicks, f.Shift, from, n)
		if e != api.OK {
			t.Fatalf("Announce: %d", e)
		}
		kept, e := sift.Match(f.Pulses, heard, from)
		want(t, "the slots that are kept", kept, e, same, api.OK)
		a, e := sift.Sent(f.Pulses, kept)
		b, e2 := sift.Received(f.Clicks, f.Shift, kept)
		if e != api.OK || e2 != api.OK || len(a) != len(kept) || len(b) != len(kept) {
			t.Fatalf("%d slots, %d bits and %d bits, %d, %d", len(kept), len(a), len(b), e, e2)
		}
		var found []int
		for i, slot := range kept {
			if a[i] != b[i] {
				found = append(found, slot)
			}
		}
		want(t, "the slots that differ", found, api.OK, wrong, api.OK)
		agreed, differed = agreed+len(same), differed+len(wrong)

		// The classes part the kept slots, and the gains count them.
		g, e := sift.Gains(f.Pulses, kept, b, from)
		sum := api.Gain{}
		var all []int
		for class, x := range g {
			l, e := sift.Class(f.Pulses, kept, class)
			if len(l) != x.Heard || e != api.OK {
				t.Errorf("%d slots of the class %d, the gain is %v", len(l), class, x)
			}
			all = append(all, l...)
			sum = api.Gain{Heard: sum.Heard + x.Heard, Wrong: sum.Wrong + x.Wrong}
		}
		slices.Sort(all)
		want(t, "the slots of all classes", all, e, kept, api.OK)
		wantOne(t, "the sum of the gains", sum, e, api.Gain{Heard: len(same), Wrong: len(wrong)}, api.OK)
	}
	if agreed < 1000 || differed < 100 {
		t.Errorf("%d agreed, %d differed", agreed, differed)
	}
}

// P4.15: the text carries all that the other end needs.
func TestAnnouncementsAsTexts(t *testing.T) {
	r := newRand()
	for range 50 {
		f := randomFlight(t, r, 100)
		heard, _ := sift.Announce(f.Clicks, f.Shift, 0, 100)
		s, e := sift.Text(heard)
		if e != api.OK {
			t.Fatalf("Text of %v: %d", heard, e)
		}
		l, e := sift.Parse(s)
		want(t, s, l, e, heard, api.OK)
	}
}

// A whole transmission is aligned by its head.
func TestHeadsOfTransmissions(t *testing.T) {
	r := newRand()
	for a := -16; a <= 16; a++ {
		rule := api.Rule{Kind: api.RuleShift, A: a}
		if a < 0 {
			rule.A, rule.B = -a, 1
		}
		o := decoys([4]int{256}, [4]int{0, 256})
		o.Kind, o.Classes = api.Prepare, [3]int{0, 0, 256}
		f, _ := optics.Run(o, []api.Rule{rule, {Kind: api.RuleLoss, A: 60}, {Kind: api.RuleNoise, A: 10}}, 400, [3]uint64{r.Uint64(), 2, 3})
		s, e := sift.Align(f.Pulses[:200], f.Clicks, 30)
		wantOne(t, fmt.Sprint("the shift ", a), s, e, a, api.OK)
	}
}

// sums returns the sums of the products of weights with numbers.
func sums(rows [3][4]int, numbers [4]int) [3]int {
	var l [3]int
	for class, row := range rows {
		for n, weight := range row {
			l[class] += weight * numbers[n]
		}
	}
	return l
}

// P4.17: whatever yields and faults the numbers of photons have, the bounds hold. They are sixteenths, so that the gains of 4096 pulses are whole.
func TestAnyYields(t *testing.T) {
	r := newRand()
	sharp, below, above := 0, 0, 0
	for range 20000 {
		o := suited(r)
		var y, w [4]int
		for n := range y {
			y[n] = oneOf(r, []int{0, 16, r.IntN(17)})
			w[n] = oneOf(r, []int{0, y[n], r.IntN(y[n] + 1)})
		}
		heard, wrong := sums(o.Photons, y), sums(o.Photons, w)
		var g [3]api.Gain
		for class := range g {
			g[class] = api.Gain{Sent: 4096, Heard: heard[class], Wrong: wrong[class]}
		}
		yield, e := sift.Yield(o, g)
		faults, e2 := sift.Faults(o, g)
		if e != api.OK || e2 != api.OK {
			t.Fatalf("%v, %v: %d, %d", o, g, e, e2)
		}
		one, bad := big.NewRat(int64(y[1]), 16), big.NewRat(int64(w[1]), 16)
		switch toRat(yield).Cmp(one) {
		case 1:
			t.Errorf("%v, yields %v: the yield %v", o, y, yield)
		case 0:
			sharp++
		case -1:
			below++
		}
		switch toRat(faults).Cmp(bad) {
		case -1:
			t.Errorf("%v, faults %v: the faults %v", o, w, faults)
		case 1:
			above++
		}
	}
	if sharp < 100 || below < 100 || above < 100 {
		t.Errorf("%d sharp, %d below, %d above", sharp, below, above)
	}
}

// P4.18: of all sets of k bits, at most the fraction eps has so few wrong ones if there are more than Bad; at Bad it is more than that.
func TestAllSamples(t *testing.T) {
	for n := range 9 {
		for k := range n + 1 {
			for seen := range k + 1 {
				for _, eps := range []api.Frac{frac(0, 1), frac(1, 100), frac(1, 20), frac(1, 6), frac(1, 3), frac(1, 2), frac(9, 10)} {
					x, e := sift.Rate(n, k, seen, eps)
					if e != api.OK {
						t.Fatalf("Rate of %d, %d, %d: %d", n, k, seen, e)
					}
					for bad := seen; bad <= n; bad++ {
						few := fewWrong(n, k, seen, 1<<bad-1)
						if few != fewWrong(n, k, seen, bits.Reverse64(1<<bad-1)>>(64-n)) {
							t.Errorf("it matters which %d of %d bits are wrong", bad, n)
						}
						if exceeds := few.Cmp(toRat(eps)) > 0; bad > x.Bad && exceeds || bad == x.Bad && !exceeds {
							t.Errorf("%d of %d, %d wrong, %d seen: %v, eps %v, Bad %d", k, n, bad, seen, few, eps, x.Bad)
						}
					}
				}
			}
		}
	}
}

// fewWrong returns the fraction of all sets of k of n bits that have at most seen of the wrong ones.
func fewWrong(n, k, seen int, wrong uint64) fraction {
	few, all := 0, 0
	for set := range uint64(1) << n {
		if bits.OnesCount64(set) != k {
			continue
		}
		all++
		if bits.OnesCount64(set&wrong) <= seen {
			few++
		}
	}
	return fraction{few, all}
}

// fraction is a fraction that can be compared with ==.
type fraction struct{ num, den int }

func (f fraction) Cmp(r *big.Rat) int { return big.NewRat(int64(f.num), int64(f.den)).Cmp(r) }

// P4.19: below the threshold the sample has at most limit times k wrong bits, and all others are in the rest.
func TestThreshold(t *testing.T) {
	r := newRand()
	passed, refused := 0, 0
	for range 4000 {
		a := randomBits(r, 1+r.IntN(60))
		b := slices.Clone(a)
		for range r.IntN(6) {
			i := r.IntN(len(b))
			b[i] = !b[i]
		}
		k, seed, limit := r.IntN(len(a)+1), r.Uint64(), frac(uint64(r.IntN(4)), uint64(1+r.IntN(20)))
		x, c, d, e := sift.Test(a, b, k, seed, frac(1, 100), limit)
		at, _ := algebra.New(seed).Sample(len(a), k)
		shown, _ := algebra.Pick(a, at)
		mine, _ := algebra.Pick(b, at)
		wrong, _ := algebra.Distance(shown, mine)
		over := big.NewRat(int64(wrong), 1).Cmp(new(big.Rat).Mul(toRat(limit), big.NewRat(int64(k), 1))) > 0
		if over {
			refused++
			wantOne(t, "beyond the limit", x, e, api.Estimate{}, api.ErrNoise)
			if len(c) > 0 || len(d) > 0 {
				t.Errorf("beyond the limit there is a rest: %v, %v", c, d)
			}
			continue
		}
		passed++
		all, _ := algebra.Distance(a, b)
		rest, e2 := algebra.Distance(c, d)
		if e != api.OK || e2 != api.OK || x.Seen != wrong || rest != all-wrong || len(c) != len(a)-k {
			t.Errorf("%d wrong, %d of them in the sample: %v, %d in the rest, %d", all, wrong, x, rest, e)
		}
		checkRate(t, len(a), k, wrong, frac(1, 100))
	}
	if passed < 100 || refused < 100 {
		t.Errorf("%d passed, %d refused", passed, refused)
	}
}

// P4.19: with a limit of 0 a single wrong bit in the sample is too much.
func TestNoErrorIsAllowed(t *testing.T) {
	a := make([]bool, 20)
	for i := range a {
		b := slices.Clone(a)
		b[i] = true
		for seed := range uint64(20) {
			at, _ := algebra.New(seed).Sample(20, 10)
			_, c, d, e := sift.Test(a, b, 10, seed, frac(1, 2), frac(0, 1))
			if slices.Contains(at, i) {
				want(t, "a wrong bit in the sample", d, e, nil, api.ErrNoise)
				continue
			}
			want(t, "a wrong bit in the rest", c, e, a[:10], api.OK)
			if algebra.Count(d) != 1 {
				t.Errorf("%v has not the wrong bit", d)
			}
		}
	}
}

// The first example of the whole document.
func TestTheTail(t *testing.T) {
	f, e := exact.Tail(4, 1, 2, 0)
	wantFrac(t, "Tail", f, e, big.NewRat(1, 2), api.OK)
	x, e := sift.Rate(4, 2, 0, frac(1, 2))
	wantOne(t, "Rate", x, e, api.Estimate{Total: 4, Sample: 2}, api.OK)
}
