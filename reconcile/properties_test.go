package reconcile_test

import (
	"slices"
	"testing"

	"waveplate/api"
	"waveplate/reconcile"
)

// P5.11: in the end each block of each pass has the same parity in both strings.
func TestParities(t *testing.T) {
	r := newRand()
	left := 0
	for range 2000 {
		truth := randomBits(r, r.IntN(80))
		c := randomPlan(r, len(truth))
		b, _, e := reconcile.Run(c, noisy(r, truth, oneOf(r, []int{2, 5, 20})), truth)
		if e != api.OK {
			t.Fatalf("Run: %d", e)
		}
		for pass := range c.Passes {
			blocks, _ := reconcile.Blocks(c, len(b), pass)
			for _, q := range blocks {
				mine, _ := reconcile.Reply(c, b, q)
				theirs, _ := reconcile.Reply(c, truth, q)
				if mine != theirs {
					t.Errorf("%v: the block %v is odd in the end", c, q)
				}
			}
		}
		left += distance(b, truth)
	}
	if left == 0 {
		t.Error("no errors were ever left")
	}
}

// P5.11: strings that differ at one place, or at one place at most in each block of the first pass, are equal in the end.
func TestFewErrors(t *testing.T) {
	r := newRand()
	for range 500 {
		truth := randomBits(r, 1+r.IntN(60))
		c := randomPlan(r, len(truth))
		b, _, e := reconcile.Run(c, flip(truth, r.IntN(len(truth))), truth)
		want(t, "with one error", b, e, truth, api.OK)

		blocks, _ := reconcile.Blocks(c, len(truth), 0)
		var at []int
		for _, q := range blocks {
			if !rarely(r, 3) {
				at = append(at, q.From+r.IntN(q.To-q.From))
			}
		}
		b, _, e = reconcile.Run(c, flip(truth, at...), truth)
		want(t, "with an error in each block", b, e, truth, api.OK)
	}
	for i := range 512 {
		truth := randomBits(r, 512)
		b, _, e := reconcile.Run(api.Cascade{Passes: 2, Block: 100, Seed: uint64(i)}, flip(truth, i), truth)
		want(t, "with one error of 512", b, e, truth, api.OK)
	}
}

// P5.12: each bit that is inverted is one at which the strings differed.
func TestProgress(t *testing.T) {
	r := newRand()
	for range 500 {
		truth := randomBits(r, r.IntN(60))
		b := noisy(r, truth, oneOf(r, []int{1, 2, 5, 20}))
		c := randomPlan(r, len(truth))
		first := distance(b, truth)
		m := newMachine(t, c, b)
		for q, open, _ := m.Ask(); open; q, open, _ = m.Ask() {
			parity, _ := reconcile.Reply(c, truth, q)
			tell(t, m, parity)
			if now := distance(m.Bits(), truth); m.Flips() != first-now {
				t.Fatalf("%d of %d differences are left behind %d inverted bits", now, first, m.Flips())
			}
		}
		if m.Failed() {
			t.Errorf("%v failed", c)
		}
	}
}

// P5.13: no question is asked twice, and each block is asked, in its order.
func TestEachBlockIsAsked(t *testing.T) {
	r := newRand()
	for range 1000 {
		b := randomBits(r, r.IntN(40))
		c := randomPlan(r, len(b))
		m := newMachine(t, c, b)
		for !isOver(m) {
			tell(t, m, r.IntN(2) == 1)
		}
		have := map[api.Question]bool{}
		for _, a := range m.Known() {
			if have[a.Q] {
				t.Errorf("%v: %v is asked twice", c, a.Q)
			}
			have[a.Q] = true
		}
		for pass := range c.Passes {
			blocks, _ := reconcile.Blocks(c, len(b), pass)
			for _, q := range blocks {
				if !have[q] && !m.Failed() {
					t.Errorf("%v: %v is not asked", c, q)
				}
			}
		}
	}
}

// P5.13: the rank of what was asked says how many true strings give the same answers, and with all of these the course is the same.
func TestWhatIsTold(t *testing.T) {
	r := newRand()
	for range 60 {
		n := r.IntN(9)
		c, b := randomPlan(r, n), randomBits(r, n)
		strings := allBits(n)
		for _, truth := range strings[:min(len(strings), 40)] {
			end, told, _ := reconcile.Run(c, b, truth)
			var asked []api.Question
			for _, a := range told {
				asked = append(asked, a.Q)
			}
			rank, e := reconcile.Rank(c, n, asked)
			same := 0
			for _, other := range strings {
				if slices.ContainsFunc(told, func(a api.Answer) bool { p, _ := reconcile.Reply(c, other, a.Q); return p != a.Parity }) {
					continue
				}
				same++
				bits, l, e := reconcile.Run(c, b, other)
				want(t, "the string", bits, e, end, api.OK)
				want(t, "what is told", l, e, told, api.OK)
			}
			wantOne(t, "how many strings give these answers", same, e, 1<<(n-rank), api.OK)
		}
	}
}

// P5.14: what is found has the syndrome that was given, and is not farther away than the true string.
func TestSyndromesOfResults(t *testing.T) {
	r := newRand()
	decoded := 0
	for range 400 {
		c := randomCode(r, 64, 60)
		truth := randomBits(r, c.Bits)
		s, e := reconcile.Syndrome(c, truth)
		if e != api.OK {
			t.Fatalf("Syndrome: %d", e)
		}
		b, n, e := reconcile.Decode(c, truth, s, r.IntN(65))
		want(t, "Decode without differences", b, e, truth, api.OK)
		wantOne(t, "the rounds without differences", n, e, 0, api.OK)

		most := r.IntN(4)
		wrong := flip(truth, r.Perm(c.Bits)[:min(c.Bits, r.IntN(most+1))]...)
		b, n, e = reconcile.Nearest(c, wrong, s, most)
		if e != api.OK || n > distance(wrong, truth) || n != distance(wrong, b) {
			t.Errorf("%v: %d, %d of %d", c, e, n, distance(wrong, truth))
		}
		got, e := reconcile.Syndrome(c, b)
		want(t, "the syndrome of Nearest", got, e, s, api.OK)

		if b, _, e = reconcile.Decode(c, wrong, s, 64); e == api.OK {
			got, e = reconcile.Syndrome(c, b)
			want(t, "the syndrome of Decode", got, e, s, api.OK)
			decoded++
		}
	}
	if decoded < 50 {
		t.Errorf("only %d were decoded", decoded)
	}
}

// P5.15.
func TestSyndromesAreLinear(t *testing.T) {
	r := newRand()
	xor := func(a, b []bool) []bool {
		x := make([]bool, len(a))
		for i := range a {
			x[i] = a[i] != b[i]
		}
		return x
	}
	for range 500 {
		c := randomCode(r, 512, 256)
		a, b := randomBits(r, c.Bits), randomBits(r, c.Bits)
		x, _ := reconcile.Syndrome(c, a)
		y, _ := reconcile.Syndrome(c, b)
		z, e := reconcile.Syndrome(c, xor(a, b))
		want(t, "the syndrome of the xor", z, e, xor(x, y), api.OK)
	}
}

// The sixth example of the whole document: strings that differ in one bit need a parity for each block, and one for each halving.
func TestOneError(t *testing.T) {
	truth := make([]bool, 64)
	for i := range truth {
		_, told, e := reconcile.Run(api.Cascade{Passes: 1, Block: 16}, flip(truth, i), truth)
		wantOne(t, "the number of questions", len(told), e, 4+4, api.OK)
	}
}
