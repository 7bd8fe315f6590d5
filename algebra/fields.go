package algebra

import "waveplate/api"

// field is a field of 2^width elements. Its polynomial is x^width plus the polynomial low.
type field struct {
	width int
	low   uint64
}

// fieldOf returns the field of a width, and whether there is one.
func fieldOf(w int) (field, bool) {
	switch w {
	case 8:
		return byteField(), true
	case 16:
		return field{width: 16, low: 0b101011}, true
	case 32:
		return field{width: 32, low: 0b10001101}, true
	}
	return field{}, false
}

// byteField returns the field whose elements are bytes.
func byteField() field { return field{width: 8, low: 0b11011} }

// Mul returns a product in a field.
func Mul(w int, a, b uint64) (uint64, api.Errno) {
	f, ok := fieldOf(w)
	switch {
	case !ok:
		return 0, api.ErrArg
	case !f.has(a) || !f.has(b):
		return 0, api.ErrRange
	}
	return f.mul(a, b), api.OK
}

// Inverse returns an inverse in a field.
func Inverse(w int, a uint64) (uint64, api.Errno) {
	f, ok := fieldOf(w)
	switch {
	case !ok:
		return 0, api.ErrArg
	case !f.has(a):
		return 0, api.ErrRange
	case a == 0:
		return 0, api.ErrZero
	}
	return f.inverse(a), api.OK
}

// has reports whether a number is an element.
func (f field) has(a uint64) bool { return a>>f.width == 0 }

// mul returns the product of two elements: the sum of all a x^i for which b has the power x^i.
func (f field) mul(a, b uint64) uint64 {
	var product uint64
	for ; b > 0; b >>= 1 {
		if b&1 == 1 {
			product ^= a
		}
		a = f.timesX(a)
	}
	return product
}

// timesX returns the product of an element and x.
func (f field) timesX(a uint64) uint64 {
	a <<= 1
	if f.has(a) {
		return a
	}
	return a ^ 1<<f.width ^ f.low
}

// inverse returns the inverse of an element that is not 0. The power 2^width - 1 of each of these is 1, so it is the power before: the product of the powers 2, 4, 8 and so on to 2^(width - 1).
func (f field) inverse(a uint64) uint64 {
	inverse, power := uint64(1), a
	for range f.width - 1 {
		power = f.mul(power, power)
		inverse = f.mul(inverse, power)
	}
	return inverse
}
