package reconcile_test

import (
	"fmt"
	"math/bits"
	"math/rand/v2"
	"slices"
	"testing"

	"waveplate/api"
	"waveplate/reconcile"
)

func checkRank(t *testing.T, c api.Cascade, n int, l []api.Question) api.Errno {
	t.Helper()
	rank, e := reconcile.Rank(c, n, l)
	value, err := modelRank(c, n, l)
	wantOne(t, fmt.Sprintf("Rank of %v, %d, %s", c, n, short(l)), rank, e, value, err)
	return err
}

// randomQuestions returns valid questions.
func randomQuestions(r *rand.Rand, c api.Cascade, n, count int) []api.Question {
	l := make([]api.Question, count)
	for i := range l {
		from := r.IntN(n)
		l[i] = api.Question{Pass: r.IntN(c.Passes), From: from, To: from + 1 + r.IntN(n-from)}
	}
	return l
}

// P5.7: any plans, lengths and questions.
func TestRank(t *testing.T) {
	r := newRand()
	met := tally{}
	for range 4000 {
		n := anyLength(r)
		c := anyPlan(r, n)
		l := make([]api.Question, r.IntN(40))
		for i := range l {
			l[i] = anyQuestion(r, c, n)
			if !isQuestion(c, n, l[i]) && !rarely(r, 20) {
				l[i] = api.Question{To: 1}
			}
		}
		if rarely(r, 40) {
			l = make([]api.Question, 4097)
		}
		met[checkRank(t, c, orEdge(r, n), l)]++
	}
	met.wantAll(t, api.OK, api.ErrArg, api.ErrLong, api.ErrMany, api.ErrRange)
}

// P5.7: the rank by its definition, for few bits: the greatest number of questions of which none is the xor of others.
func TestRankCounts(t *testing.T) {
	r := newRand()
	for range 400 {
		n := 1 + r.IntN(6)
		c := randomPlan(r, n)
		l := randomQuestions(r, c, n, r.IntN(8))
		masks := make([]int, len(l))
		for i, q := range l {
			at, _ := modelPlaces(c, n, q)
			for _, j := range at {
				masks[i] |= 1 << j
			}
		}
		greatest := 0
		for chosen := range 1 << len(l) {
			if isFree(masks, chosen) {
				greatest = max(greatest, bits.OnesCount(uint(chosen)))
			}
		}
		rank, e := reconcile.Rank(c, n, l)
		wantOne(t, fmt.Sprintf("Rank of %v, %d, %v", c, n, l), rank, e, greatest, api.OK)
	}
}

// isFree reports whether none of the chosen masks is the xor of other chosen ones.
func isFree(masks []int, chosen int) bool {
	for part := 1; part <= chosen; part++ {
		if part&^chosen != 0 {
			continue
		}
		sum := 0
		for i, mask := range masks {
			if part>>i&1 == 1 {
				sum ^= mask
			}
		}
		if sum == 0 {
			return false
		}
	}
	return true
}

// P5.7: the longest strings and the most questions.
func TestGreatRanks(t *testing.T) {
	r := newRand()
	c := api.Cascade{Passes: 6, Block: 1, Seed: 8}
	var single, growing []api.Question
	for i := range 512 {
		single = append(single, api.Question{Pass: i % 6, From: i, To: i + 1})
		growing = append(growing, api.Question{Pass: 5, To: 512 - i})
	}
	wantRank := func(l []api.Question, n int) {
		t.Helper()
		rank, e := reconcile.Rank(c, 512, l)
		wantOne(t, "Rank", rank, e, n, api.OK)
	}
	wantRank(growing, 512)
	wantRank(slices.Concat(growing, growing, single), 512)
	wantRank(growing[511:], 1)
	wantRank(slices.Repeat(growing[:1], 4096), 1)
	wantRank(slices.Repeat(growing, 8), 512)
	checkRank(t, c, 512, single)
	checkRank(t, c, 512, randomQuestions(r, c, 512, 4096))
	checkRank(t, c, 512, randomQuestions(r, c, 512, 300))
	var all []api.Question
	for pass := range 6 {
		l, _ := modelBlocks(api.Cascade{Passes: 6, Block: 8, Seed: 8}, 512, pass)
		all = append(all, l...)
	}
	checkRank(t, c, 512, all)
}

// P5.7: too many questions come before one that is not valid, and behind a wrong number of bits.
func TestRankErrors(t *testing.T) {
	good := api.Cascade{Passes: 2, Block: 4}
	one := api.Question{Pass: 1, From: 1, To: 3}
	most := slices.Repeat([]api.Question{one}, 4096)
	for _, c := range append(wrongPlans(), good) {
		for _, n := range edgeInts {
			checkRank(t, c, n, nil)
			checkRank(t, c, n, []api.Question{one})
			checkRank(t, c, n, most)
			checkRank(t, c, n, append(most[:4095:4095], api.Question{}))
			checkRank(t, c, n, append(most[:4096:4096], one))
			checkRank(t, c, n, append(most[:4096:4096], api.Question{}))
			for _, i := range edgeInts {
				checkRank(t, c, n, []api.Question{one, {Pass: i, To: 1}})
				checkRank(t, c, n, []api.Question{{From: i, To: 512}, one})
				checkRank(t, c, n, []api.Question{one, {To: i}, one})
			}
		}
	}
}

// The chapter's example of a rank.
func TestRankExamples(t *testing.T) {
	c := api.Cascade{Passes: 1, Block: 4}
	for _, x := range []struct {
		l    []api.Question
		rank int
	}{
		{[]api.Question{{To: 4}, {To: 2}, {From: 2, To: 4}}, 2},
		{[]api.Question{{To: 4}, {To: 2}, {From: 1, To: 4}}, 3},
		{nil, 0},
	} {
		rank, e := reconcile.Rank(c, 4, x.l)
		wantOne(t, fmt.Sprint(x.l), rank, e, x.rank, api.OK)
	}
}
