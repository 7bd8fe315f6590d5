package sift

import (
	"waveplate/api"
	"waveplate/exact"
	"waveplate/optics"
)

// whole is the sum of the weights of a class.
const whole = 256

// Suits reports whether an arrangement is suited to decoys.
func Suits(o api.Optics) api.Errno {
	if e := optics.Check(o); e != api.OK {
		return e
	}
	switch {
	case o.Kind != api.Decoy:
		return api.ErrArg
	case minor(o, 1) <= 0 || minor(o, 3) > 0:
		return api.ErrState
	}
	return api.OK
}

// minor returns P(S, 2) P(W, n) - P(W, 2) P(S, n): the weight of n photons in that difference of the classes Weak and Signal in which two photons have none. It is D for n = 1, and E for n = 0.
func minor(o api.Optics, n int) int {
	weak, signal := o.Photons[api.Weak], o.Photons[api.Signal]
	return signal[2]*weak[n] - weak[2]*signal[n]
}

// checkDecoys returns the error of an arrangement and gains from which no bound follows.
func checkDecoys(o api.Optics, gains [3]api.Gain) api.Errno {
	if e := Suits(o); e != api.OK {
		return e
	}
	if !areGains(gains) {
		return api.ErrArg
	}
	for _, g := range gains {
		if g.Sent == 0 {
			return api.ErrNone
		}
	}
	return api.OK
}

// Yield returns a lower bound on how often a single photon is kept.
func Yield(o api.Optics, g [3]api.Gain) (api.Frac, api.Errno) {
	if e := checkDecoys(o, g); e != api.OK {
		return api.Frac{}, e
	}
	var s steps
	do := s.take
	plus := do(exact.FracMul, frac(whole*o.Photons[api.Signal][2], 1), gain(g[api.Weak]))
	minus := do(exact.FracMul, frac(whole*o.Photons[api.Weak][2], 1), gain(g[api.Signal]))
	// There are no fractions below 0: to take away what has a weight below 0 is to add it.
	weight := minor(o, 0)
	vacuum := do(exact.FracMul, frac(max(weight, -weight), 1), gain(g[api.Vacuum]))
	if weight < 0 {
		plus = do(exact.FracAdd, plus, vacuum)
	} else {
		minus = do(exact.FracAdd, minus, vacuum)
	}
	y := between0And1(do, plus, minus, minor(o, 1))
	return y, s.e
}

// Faults returns an upper bound on how often a single photon is kept and wrong.
func Faults(o api.Optics, g [3]api.Gain) (api.Frac, api.Errno) {
	if e := checkDecoys(o, g); e != api.OK {
		return api.Frac{}, e
	}
	var s steps
	do := s.take
	weak := o.Photons[api.Weak]
	plus := do(exact.FracMul, frac(whole, 1), loss(g[api.Weak]))
	minus := do(exact.FracMul, frac(weak[0], 1), loss(g[api.Vacuum]))
	f := between0And1(do, plus, minus, weak[1])
	return f, s.e
}

// Singles returns how many of n bits of the class Signal come of single photons.
func Singles(o api.Optics, g [3]api.Gain, n int) (int, api.Errno) {
	y, e := Yield(o, g)
	if e := firstError(e, checkCount(n, api.MaxBlock)); e != api.OK {
		return 0, e
	}
	signal := g[api.Signal]
	if signal.Heard == 0 {
		return 0, api.OK
	}
	f, e := exact.FracMul(y, frac(n*o.Photons[api.Signal][1]*signal.Sent, whole*signal.Heard))
	if e != api.OK {
		return 0, e
	}
	return floor(f, n)
}

// gain returns the gain of a class.
func gain(g api.Gain) api.Frac { return frac(g.Heard, g.Sent) }

// loss returns the loss of a class.
func loss(g api.Gain) api.Frac { return frac(g.Wrong, g.Sent) }
