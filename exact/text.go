package exact

import (
	"slices"
	"strings"

	"waveplate/api"
)

// maxDigits is how many decimal digits the greatest number of MaxLimbs limbs has.
const maxDigits = 617

// Text returns the decimal digits of a number.
func Text(a api.Nat) (string, api.Errno) {
	if e := tooLong(a); e != api.OK {
		return "", e
	}
	return digits(a), api.OK
}

// Parse reads a number.
func Parse(s string) (api.Nat, api.Errno) {
	if !isNumber(s) {
		return nil, api.ErrForm
	}
	return fit(value(s))
}

// digits returns the text of a number.
func digits(a api.Nat) string {
	// The greatest power of ten below 2^32 makes the fewest divisions.
	const chunk, width = 1000000000, 9
	if isZero(a) {
		return "0"
	}
	var text []byte
	rest := trim(a)
	for len(rest) > 0 {
		var part uint32
		rest, part = divideSmall(rest, chunk)
		for range width {
			text = append(text, '0'+byte(part%10))
			part /= 10
		}
	}
	slices.Reverse(text)
	return strings.TrimLeft(string(text), "0")
}

// isNumber reports whether s is the text of a number that is not too long for one.
func isNumber(s string) bool {
	if len(s) == 0 || len(s) > maxDigits || len(s) > 1 && s[0] == '0' {
		return false
	}
	for i := range len(s) {
		if s[i] < '0' || s[i] > '9' {
			return false
		}
	}
	return true
}

// value returns the number with a text, which may have more than MaxLimbs limbs.
func value(s string) api.Nat {
	var a api.Nat
	for i := range len(s) {
		a = mulSmall(a, 10, uint32(s[i]-'0'))
	}
	return a
}
