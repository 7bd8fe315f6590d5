// Package exact is layer 1: natural numbers and fractions of any size up to a limit, and the exact bounds of sampling without replacement.
package exact

import "waveplate/api"

// tooLong returns ErrLong if one of the numbers is too long.
func tooLong(l ...api.Nat) api.Errno {
	for _, a := range l {
		if len(a) > api.MaxLimbs {
			return api.ErrLong
		}
	}
	return api.OK
}

// fit returns a number that was computed, unless it has too many limbs.
func fit(a api.Nat) (api.Nat, api.Errno) {
	if len(a) > api.MaxLimbs {
		return nil, api.ErrOver
	}
	return a, api.OK
}

// Check reports whether a number is not too long.
func Check(a api.Nat) api.Errno { return tooLong(a) }

// Norm returns a number without zeros at the end.
func Norm(a api.Nat) (api.Nat, api.Errno) {
	if e := tooLong(a); e != api.OK {
		return nil, e
	}
	return own(a), api.OK
}

// Of returns a small number.
func Of(n uint64) api.Nat {
	return trim(api.Nat{uint32(n), uint32(n >> limbBits)})
}

// Small returns a number that fits 64 bits.
func Small(a api.Nat) (uint64, api.Errno) {
	if e := tooLong(a); e != api.OK {
		return 0, e
	}
	if len(trim(a)) > 2 {
		return 0, api.ErrOver
	}
	return uint64(limb(a, 1))<<limbBits | uint64(limb(a, 0)), api.OK
}

// Compare returns -1, 0 or 1 if a is less than b, equal to it, or greater.
func Compare(a, b api.Nat) (int, api.Errno) {
	if e := tooLong(a, b); e != api.OK {
		return 0, e
	}
	return compare(a, b), api.OK
}

// Add returns a + b.
func Add(a, b api.Nat) (api.Nat, api.Errno) {
	if e := tooLong(a, b); e != api.OK {
		return nil, e
	}
	return fit(add(a, b))
}

// Sub returns a - b.
func Sub(a, b api.Nat) (api.Nat, api.Errno) {
	if e := tooLong(a, b); e != api.OK {
		return nil, e
	}
	return difference(a, b)
}

// Mul returns a b.
func Mul(a, b api.Nat) (api.Nat, api.Errno) {
	if e := tooLong(a, b); e != api.OK {
		return nil, e
	}
	return fit(mul(a, b))
}

// Divide returns the quotient of a and b, rounded down, and the remainder.
func Divide(a, b api.Nat) (api.Nat, api.Nat, api.Errno) {
	if e := tooLong(a, b); e != api.OK {
		return nil, nil, e
	}
	if isZero(b) {
		return nil, nil, api.ErrZero
	}
	quotient, rest := divide(a, b)
	return quotient, rest, api.OK
}

// Gcd returns the greatest common divisor; the other number if one of them is 0.
func Gcd(a, b api.Nat) (api.Nat, api.Errno) {
	if e := tooLong(a, b); e != api.OK {
		return nil, e
	}
	return gcd(a, b), api.OK
}

// Bits returns how many binary digits a number has.
func Bits(a api.Nat) (int, api.Errno) {
	if e := tooLong(a); e != api.OK {
		return 0, e
	}
	return size(a), api.OK
}
