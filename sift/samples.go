package sift

import (
	"slices"

	"waveplate/algebra"
	"waveplate/api"
	"waveplate/exact"
)

// Sample returns a sample and the rest.
func Sample(n, k int, seed uint64) ([]int, []int, api.Errno) {
	if e := checkCount(n, api.MaxBlock); e != api.OK {
		return nil, nil, e
	}
	sample, e := algebra.New(seed).Sample(n, k) // ErrRange for other k
	if e != api.OK {
		return nil, nil, e
	}
	var rest []int
	for i := range n {
		if _, found := slices.BinarySearch(sample, i); !found {
			rest = append(rest, i)
		}
	}
	return sample, rest, api.OK
}

// Rate returns an estimate.
func Rate(total, sample, seen int, eps api.Frac) (api.Estimate, api.Errno) {
	bad, e := exact.Bound(total, sample, seen, eps)
	if e != api.OK {
		return api.Estimate{}, e
	}
	return api.Estimate{Total: total, Sample: sample, Seen: seen, Bad: bad, Rest: bad - seen}, api.OK
}

// Judge reports whether a sample is within a limit.
func Judge(sample, seen int, limit api.Frac) api.Errno {
	if e := firstError(exact.CheckFrac(limit), checkCount(sample, api.MaxBlock), checkCount(seen, sample)); e != api.OK {
		return e
	}
	// The product of limit and sample may be too long for a number, so the rate is compared; that of an empty sample is 0.
	order, e := exact.FracCompare(frac(seen, max(sample, 1)), limit)
	switch {
	case e != api.OK:
		return e
	case order > 0:
		return api.ErrNoise
	}
	return api.OK
}

// Test estimates the errors of a block from a sample. It also returns what is left of both strings without the sample.
func Test(a, b []bool, k int, seed uint64, eps, limit api.Frac) (api.Estimate, []bool, []bool, api.Errno) {
	if len(a) != len(b) {
		return api.Estimate{}, nil, nil, api.ErrEqual
	}
	sample, rest, e := Sample(len(a), k, seed)
	if e != api.OK {
		return api.Estimate{}, nil, nil, e
	}
	seen := 0
	for _, i := range sample {
		if a[i] != b[i] {
			seen++
		}
	}
	estimate, e := Rate(len(a), k, seen, eps)
	if e != api.OK {
		return api.Estimate{}, nil, nil, e
	}
	if e := Judge(k, seen, limit); e != api.OK {
		return api.Estimate{}, nil, nil, e
	}
	return estimate, pick(a, rest), pick(b, rest), api.OK
}

// pick returns the bits with some indexes, all of which exist.
func pick(b []bool, at []int) []bool {
	picked, _ := algebra.Pick(b, at)
	return picked
}
