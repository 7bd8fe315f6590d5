package reconcile_test

import (
	"fmt"
	"math"
	"slices"
	"testing"

	"waveplate/api"
	"waveplate/reconcile"
)

func checkOrder(t *testing.T, c api.Cascade, n, pass int) api.Errno {
	t.Helper()
	l, e := reconcile.Order(c, n, pass)
	list, err := modelOrder(c, n, pass)
	want(t, fmt.Sprintf("Order of %v, %d, %d", c, n, pass), l, e, list, err)
	return err
}

func checkBlocks(t *testing.T, c api.Cascade, n, pass int) api.Errno {
	t.Helper()
	l, e := reconcile.Blocks(c, n, pass)
	list, err := modelBlocks(c, n, pass)
	want(t, fmt.Sprintf("Blocks of %v, %d, %d", c, n, pass), l, e, list, err)
	return err
}

func checkPlaces(t *testing.T, c api.Cascade, n int, q api.Question) api.Errno {
	t.Helper()
	l, e := reconcile.Places(c, n, q)
	list, err := modelPlaces(c, n, q)
	want(t, fmt.Sprintf("Places of %v, %d, %v", c, n, q), l, e, list, err)
	return err
}

func checkReply(t *testing.T, c api.Cascade, b []bool, q api.Question) api.Errno {
	t.Helper()
	p, e := reconcile.Reply(c, b, q)
	value, err := modelReply(c, b, q)
	wantOne(t, fmt.Sprintf("Reply of %v, %s, %v", c, short(b), q), p, e, value, err)
	return err
}

// P5.1: Check looks at nothing but the passes and the block size.
func TestCheck(t *testing.T) {
	for _, passes := range edgeInts {
		for _, block := range edgeInts {
			for _, seed := range edgeSeeds {
				c := api.Cascade{Passes: passes, Block: block, Seed: seed}
				wantOne(t, fmt.Sprintf("Check of %v", c), 0, reconcile.Check(c), 0, modelCheck(c))
			}
		}
	}
}

// P5.1: any plans, lengths and passes.
func TestOrdersAndBlocks(t *testing.T) {
	r := newRand()
	orders, blocks := tally{}, tally{}
	for range 8000 {
		n := orEdge(r, anyLength(r))
		c := anyPlan(r, n)
		pass := orEdge(r, r.IntN(7))
		orders[checkOrder(t, c, n, pass)]++
		blocks[checkBlocks(t, c, n, pass)]++
	}
	orders.wantAll(t, api.OK, api.ErrArg, api.ErrLong, api.ErrRange)
	blocks.wantAll(t, api.OK, api.ErrArg, api.ErrLong, api.ErrRange)
}

// P5.1: orders that another program computed; the seed of a pass may overflow.
func TestKnownOrders(t *testing.T) {
	for _, x := range []struct {
		c    api.Cascade
		pass int
		want []int
	}{
		{api.Cascade{Passes: 2, Block: 4, Seed: 7}, 0, []int{0, 1, 2, 3, 4, 5, 6, 7, 8, 9}},
		{api.Cascade{Passes: 2, Block: 4, Seed: 7}, 1, []int{7, 3, 6, 8, 9, 2, 4, 5, 1, 0}},
		{api.Cascade{Passes: 3, Block: 4, Seed: math.MaxUint64}, 1, []int{9, 0, 2, 5, 8, 6, 3, 1, 7, 4}},
		{api.Cascade{Passes: 3, Block: 4, Seed: math.MaxUint64}, 2, []int{0, 3, 7, 5, 4, 9, 8, 2, 6, 1}},
	} {
		l, e := reconcile.Order(x.c, 10, x.pass)
		want(t, fmt.Sprintf("Order of %v, pass %d", x.c, x.pass), l, e, x.want, api.OK)
	}
}

// P5.1: the block size doubles with each pass, up to 512.
func TestBlockSizes(t *testing.T) {
	for _, x := range []struct{ block, n, pass, count, first, last int }{
		{4, 512, 0, 128, 4, 4},
		{4, 512, 5, 4, 128, 128},
		{16, 512, 5, 1, 512, 512},
		{17, 512, 5, 1, 512, 512},
		{15, 512, 5, 2, 480, 32},
		{512, 512, 5, 1, 512, 512},
		{512, 1, 0, 1, 1, 1},
		{3, 7, 0, 3, 3, 1},
		{3, 7, 1, 2, 6, 1},
		{3, 7, 2, 1, 7, 7},
		{1, 3, 0, 3, 1, 1},
		{1, 3, 1, 2, 2, 1},
	} {
		l, e := reconcile.Blocks(api.Cascade{Passes: 6, Block: x.block}, x.n, x.pass)
		if e != api.OK || len(l) != x.count {
			t.Errorf("%v: %v, %d", x, l, e)
			continue
		}
		first, last := l[0], l[len(l)-1]
		if first.To-first.From != x.first || last.To-last.From != x.last || last.To != x.n || last.Pass != x.pass {
			t.Errorf("%v: the first one is %v, the last one %v", x, first, last)
		}
	}
}

// P5.2: any plans and questions.
func TestPlacesAndReplies(t *testing.T) {
	r := newRand()
	places, replies := tally{}, tally{}
	for range 8000 {
		b := randomBits(r, anyLength(r))
		c := anyPlan(r, len(b))
		q := anyQuestion(r, c, len(b))
		replies[checkReply(t, c, b, q)]++
		places[checkPlaces(t, c, orEdge(r, len(b)), q)]++
	}
	places.wantAll(t, api.OK, api.ErrArg, api.ErrLong, api.ErrRange)
	replies.wantAll(t, api.OK, api.ErrArg, api.ErrLong, api.ErrRange)
}

// P5.2: each question for a few bits, and those beside them.
func TestEachQuestion(t *testing.T) {
	b := bitsOf("0110100")
	c := api.Cascade{Passes: 3, Block: 2, Seed: 11}
	for pass := -1; pass <= 3; pass++ {
		for from := -1; from <= 8; from++ {
			for to := -1; to <= 8; to++ {
				q := api.Question{Pass: pass, From: from, To: to}
				checkPlaces(t, c, 7, q)
				checkReply(t, c, b, q)
			}
		}
	}
}

// P5.1 and P5.2: the plan comes first, then a length beyond the limit, then all else.
func TestPlanErrors(t *testing.T) {
	good := api.Cascade{Passes: 2, Block: 4}
	plans := append(wrongPlans(), good, api.Cascade{Passes: 6, Block: 512}, api.Cascade{Passes: 1, Block: 1})
	for _, c := range plans {
		for _, n := range edgeInts {
			for _, pass := range edgeInts {
				checkOrder(t, c, n, pass)
				checkBlocks(t, c, n, pass)
				checkPlaces(t, c, n, api.Question{Pass: pass, To: 1})
				checkPlaces(t, c, n, api.Question{From: pass, To: n})
				checkPlaces(t, c, n, api.Question{From: 0, To: pass})
			}
		}
		for _, n := range []int{0, 1, 511, 512, 513, 5000} {
			b := make([]bool, n)
			checkReply(t, c, b, api.Question{To: n})
			checkReply(t, c, b, api.Question{To: n + 1})
			checkReply(t, c, b, api.Question{Pass: 2, To: 1})
			checkReply(t, c, b, api.Question{})
		}
	}
	for _, x := range []struct {
		c       api.Cascade
		n, pass int
		err     api.Errno
	}{
		{good, 512, 1, api.OK},
		{good, 0, 1, api.OK},
		{good, 513, 2, api.ErrLong},
		{good, 513, -1, api.ErrLong},
		{good, -1, 0, api.ErrRange},
		{good, 512, 2, api.ErrRange},
		{good, 512, -1, api.ErrRange},
		{api.Cascade{Passes: 0, Block: 4}, 513, -1, api.ErrArg},
		{api.Cascade{Passes: 7, Block: 4}, -1, 9, api.ErrArg},
	} {
		if err := checkOrder(t, x.c, x.n, x.pass); err != x.err {
			t.Errorf("the model says %d of %v", err, x)
		}
	}
}

// The chapter's examples of plans and questions.
func TestPlanExamples(t *testing.T) {
	c := api.Cascade{Passes: 1, Block: 4}
	l, e := reconcile.Blocks(c, 6, 0)
	want(t, "Blocks of 6 bits", l, e, []api.Question{{To: 4}, {From: 4, To: 6}}, api.OK)
	for _, x := range []struct {
		q   api.Question
		err api.Errno
	}{
		{api.Question{From: 1, To: 3}, api.OK},
		{api.Question{From: 1, To: 1}, api.ErrRange},
		{api.Question{Pass: 1, From: 0, To: 2}, api.ErrRange},
	} {
		p, e := reconcile.Reply(c, bitsOf("0110"), x.q)
		wantOne(t, fmt.Sprintf("Reply to %v", x.q), p, e, false, x.err)
	}
	p, e := reconcile.Reply(c, bitsOf("0110"), api.Question{From: 1, To: 2})
	wantOne(t, "Reply to one bit", p, e, true, api.OK)
	wantOne(t, "Check of 0 passes", 0, reconcile.Check(api.Cascade{Passes: 0, Block: 4}), 0, api.ErrArg)
	wantOne(t, "Check of the block size 513", 0, reconcile.Check(api.Cascade{Passes: 1, Block: 513}), 0, api.ErrArg)
	for pass := range 6 {
		for _, n := range []int{0, 1} {
			l, e := reconcile.Order(api.Cascade{Passes: 6, Block: 1, Seed: 5}, n, pass)
			want(t, "Order of a few bits", l, e, slices.Repeat([]int{0}, n), api.OK)
		}
	}
}
