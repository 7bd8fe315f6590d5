package sift

import (
	"waveplate/api"
	"waveplate/exact"
)

// operation makes one fraction of two.
type operation func(f, g api.Frac) (api.Frac, api.Errno)

// steps are those of a computation, which ends at the first error.
type steps struct {
	e api.Errno
}

// take returns what an operation makes of two fractions, unless there was an error before.
func (s *steps) take(o operation, f, g api.Frac) api.Frac {
	if s.e != api.OK {
		return api.Frac{}
	}
	f, s.e = o(f, g)
	return f
}

// between0And1 returns (plus - minus) / weight, brought into the range from 0 to 1.
func between0And1(do func(o operation, f, g api.Frac) api.Frac, plus, minus api.Frac, weight int) api.Frac {
	share := do(exact.FracMul, do(excess, plus, minus), frac(1, weight))
	return do(lesser, share, frac(1, 1))
}

// excess returns f - g; 0 if g is greater.
func excess(f, g api.Frac) (api.Frac, api.Errno) {
	rest, e := exact.FracSub(f, g)
	if e == api.ErrRange {
		return frac(0, 1), api.OK
	}
	return rest, e
}

// lesser returns the lesser one of two fractions.
func lesser(f, g api.Frac) (api.Frac, api.Errno) {
	order, e := exact.FracCompare(f, g)
	switch {
	case e != api.OK:
		return api.Frac{}, e
	case order > 0:
		return exact.Reduce(g)
	}
	return exact.Reduce(f)
}

// floor returns the greatest whole number that is at most f, but at most n.
func floor(f api.Frac, n int) (int, api.Errno) {
	quotient, _, e := exact.Divide(f.Num, f.Den)
	if e != api.OK {
		return 0, e
	}
	number, e := exact.Small(quotient)
	if e != api.OK {
		return 0, e
	}
	return int(min(number, uint64(n))), api.OK
}

// frac returns the fraction of two numbers that are not below 0.
func frac(num, den int) api.Frac {
	return api.Frac{Num: exact.Of(uint64(num)), Den: exact.Of(uint64(den))}
}
