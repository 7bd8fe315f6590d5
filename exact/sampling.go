package exact

import (
	"sort"

	"waveplate/api"
)

// within reports whether n is from 0 to most.
func within(n, most int) bool { return n >= 0 && n <= most }

// step returns a up / down, which has no remainder; the factors are products of two numbers up to MaxBlock, so they fit a limb.
func step(a api.Nat, up, down int) api.Nat {
	next, _ := divideSmall(mulSmall(a, uint32(up), 0), uint32(down))
	return next
}

// choose returns C(n, k), for n not below 0.
func choose(n, k int) api.Nat {
	if !within(k, n) {
		return nil
	}
	c := Of(1)
	for i := range min(k, n-k) {
		c = step(c, n-i, i+1)
	}
	return c
}

// Binomial returns how many sets of k there are among n things.
func Binomial(n, k int) (api.Nat, api.Errno) {
	if !within(n, api.MaxBlock) {
		return nil, api.ErrRange
	}
	return choose(n, k), api.OK
}

// Ball returns how many bit strings of n bits have at most t true ones.
func Ball(n, t int) (api.Nat, api.Errno) {
	if !within(n, api.MaxBlock) {
		return nil, api.ErrRange
	}
	if t < 0 {
		return nil, api.OK
	}
	sum, c := Of(1), Of(1)
	for i := range min(t, n) {
		c = step(c, n-i, i+1)
		sum = add(sum, c)
	}
	return sum, api.OK
}

// samplesWith returns how many of the samples have at most seen bad things: the tail times C(total, sample).
func samplesWith(total, bad, sample, seen int) api.Nat {
	good := total - bad
	least := max(0, sample-good)
	most := min(seen, bad, sample)
	if most < least {
		return nil
	}
	c := mul(choose(bad, least), choose(good, sample-least))
	sum := c
	for i := least; i < most; i++ {
		c = step(c, (bad-i)*(sample-i), (i+1)*(good-sample+i+1))
		sum = add(sum, c)
	}
	return sum
}

// Tail returns the probability that a sample has at most seen bad things.
func Tail(total, bad, sample, seen int) (api.Frac, api.Errno) {
	if !within(total, api.MaxBlock) || !within(bad, total) || !within(sample, total) {
		return api.Frac{}, api.ErrRange
	}
	return reduced(samplesWith(total, bad, sample, seen), choose(total, sample))
}

// Bound returns the greatest number of bad things that a sample does not exclude. The tail does not grow with the bad things, so that number is found by halving; for 0 bad things the tail is 1, which is greater than eps.
func Bound(total, sample, seen int, eps api.Frac) (int, api.Errno) {
	if e := checkFracs(eps); e != api.OK {
		return 0, e
	}
	if !within(total, api.MaxBlock) || !within(sample, total) || !within(seen, sample) {
		return 0, api.ErrRange
	}
	if compare(eps.Num, eps.Den) >= 0 {
		return 0, api.ErrArg
	}
	limit := mul(eps.Num, choose(total, sample))
	excluded := func(bad int) bool {
		return compare(mul(samplesWith(total, bad, sample, seen), eps.Den), limit) <= 0
	}
	return sort.Search(total+1, excluded) - 1, api.OK
}
