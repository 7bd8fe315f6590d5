package exact

import (
	"strings"

	"waveplate/api"
)

// checkFracs returns the error of fractions that are not valid. ErrLong of any of them comes before ErrZero of another one.
func checkFracs(l ...api.Frac) api.Errno {
	for _, f := range l {
		if e := tooLong(f.Num, f.Den); e != api.OK {
			return e
		}
	}
	for _, f := range l {
		if isZero(f.Den) {
			return api.ErrZero
		}
	}
	return api.OK
}

// firstError takes steps in their order, up to the first one with an error, and returns that.
func firstError(steps ...func() api.Errno) api.Errno {
	for _, step := range steps {
		if e := step(); e != api.OK {
			return e
		}
	}
	return api.OK
}

// reduced returns num / den, reduced, if that fits; both may have more than MaxLimbs limbs.
func reduced(num, den api.Nat) (api.Frac, api.Errno) {
	var f api.Frac
	var common api.Nat
	e := firstError(
		func() api.Errno {
			common = gcd(num, den)
			return api.OK
		},
		func() (e api.Errno) {
			f.Num, e = fit(quotient(num, common))
			return e
		},
		func() (e api.Errno) {
			f.Den, e = fit(quotient(den, common))
			return e
		},
	)
	if e != api.OK {
		return api.Frac{}, e
	}
	return f, api.OK
}

func quotient(a, b api.Nat) api.Nat {
	q, _ := divide(a, b)
	return q
}

// overCommon returns the fraction that join makes of both numerators over a common denominator.
func overCommon(f, g api.Frac, join func(a, b api.Nat) (api.Nat, api.Errno)) (api.Frac, api.Errno) {
	var num api.Nat
	var result api.Frac
	e := firstError(
		func() api.Errno { return checkFracs(f, g) },
		func() (e api.Errno) {
			num, e = join(mul(f.Num, g.Den), mul(g.Num, f.Den))
			return e
		},
		func() (e api.Errno) {
			result, e = reduced(num, mul(f.Den, g.Den))
			return e
		},
	)
	return result, e
}

// CheckFrac reports whether a fraction is valid.
func CheckFrac(f api.Frac) api.Errno { return checkFracs(f) }

// Reduce returns a fraction, reduced.
func Reduce(f api.Frac) (api.Frac, api.Errno) {
	if e := checkFracs(f); e != api.OK {
		return api.Frac{}, e
	}
	return reduced(f.Num, f.Den)
}

// FracCompare returns -1, 0 or 1 if f is less than g, equal to it, or greater.
func FracCompare(f, g api.Frac) (int, api.Errno) {
	if e := checkFracs(f, g); e != api.OK {
		return 0, e
	}
	return compare(mul(f.Num, g.Den), mul(g.Num, f.Den)), api.OK
}

// FracAdd returns f + g.
func FracAdd(f, g api.Frac) (api.Frac, api.Errno) {
	return overCommon(f, g, func(a, b api.Nat) (api.Nat, api.Errno) { return add(a, b), api.OK })
}

// FracSub returns f - g.
func FracSub(f, g api.Frac) (api.Frac, api.Errno) {
	return overCommon(f, g, difference)
}

// FracMul returns f g.
func FracMul(f, g api.Frac) (api.Frac, api.Errno) {
	var result api.Frac
	e := firstError(
		func() api.Errno { return checkFracs(f, g) },
		func() (e api.Errno) {
			result, e = reduced(mul(f.Num, g.Num), mul(f.Den, g.Den))
			return e
		},
	)
	return result, e
}

// FracText returns the text of a fraction.
func FracText(f api.Frac) (string, api.Errno) {
	r, e := Reduce(f)
	if e != api.OK {
		return "", e
	}
	return digits(r.Num) + "/" + digits(r.Den), api.OK
}

// FracParse reads a fraction. Whether it is reduced is asked last: a text with a number that does not fit is ErrOver, reduced or not.
func FracParse(s string) (api.Frac, api.Errno) {
	before, after, found := strings.Cut(s, "/")
	if !found || !isNumber(before) || !isNumber(after) {
		return api.Frac{}, api.ErrForm
	}
	f := api.Frac{Num: value(before), Den: value(after)}
	if tooLong(f.Num, f.Den) != api.OK {
		return api.Frac{}, api.ErrOver
	}
	if compare(gcd(f.Num, f.Den), Of(1)) != 0 || isZero(f.Den) {
		return api.Frac{}, api.ErrForm
	}
	return f, api.OK
}
