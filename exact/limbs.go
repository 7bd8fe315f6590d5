package exact

import (
	"math/bits"

	"waveplate/api"
)

// The functions of this file take numbers with any count of limbs, normal or not, because a product or a sum on the way to a result may be longer than every result. The numbers that they return are normal, and new memory, but for trim.

const (
	limbBits = 32
	limbMask = 1<<limbBits - 1
)

// trim returns a number without the zeros at its end, in the same memory.
func trim(a api.Nat) api.Nat {
	for len(a) > 0 && a[len(a)-1] == 0 {
		a = a[:len(a)-1]
	}
	return a
}

// own returns a normal copy of a number.
func own(a api.Nat) api.Nat {
	a = trim(a)
	b := make(api.Nat, len(a))
	copy(b, a)
	return b
}

// limb returns the limb with an index: 0 beyond the end.
func limb(a api.Nat, i int) uint32 {
	if i < len(a) {
		return a[i]
	}
	return 0
}

func isZero(a api.Nat) bool { return len(trim(a)) == 0 }

// size returns how many binary digits a number has.
func size(a api.Nat) int {
	a = trim(a)
	if len(a) == 0 {
		return 0
	}
	return limbBits*(len(a)-1) + bits.Len32(a[len(a)-1])
}

func compare(a, b api.Nat) int {
	a, b = trim(a), trim(b)
	if len(a) != len(b) {
		return sign(len(a) > len(b))
	}
	for k := range len(a) {
		i := len(a) - 1 - k
		if a[i] != b[i] {
			return sign(a[i] > b[i])
		}
	}
	return 0
}

func sign(greater bool) int {
	if greater {
		return 1
	}
	return -1
}

func add(a, b api.Nat) api.Nat {
	n := max(len(a), len(b))
	sum := make(api.Nat, n+1)
	for i := range n {
		sum[i], sum[i+1] = bits.Add32(limb(a, i), limb(b, i), sum[i])
	}
	return trim(sum)
}

// difference returns a - b, and ErrRange if a is less than b.
func difference(a, b api.Nat) (api.Nat, api.Errno) {
	if compare(a, b) < 0 {
		return nil, api.ErrRange
	}
	rest := make(api.Nat, len(a))
	var borrow uint32
	for i := range len(a) {
		rest[i], borrow = bits.Sub32(a[i], limb(b, i), borrow)
	}
	return trim(rest), api.OK
}

func mul(a, b api.Nat) api.Nat {
	product := make(api.Nat, len(a)+len(b))
	for i := range len(a) {
		var carry uint64
		for j := range len(b) {
			carry += uint64(a[i])*uint64(b[j]) + uint64(product[i+j])
			product[i+j] = uint32(carry)
			carry >>= limbBits
		}
		product[i+len(b)] = uint32(carry)
	}
	return trim(product)
}

// mulSmall returns a factor + more.
func mulSmall(a api.Nat, factor, more uint32) api.Nat {
	product := make(api.Nat, len(a)+1)
	carry := uint64(more)
	for i := range len(a) {
		carry += uint64(a[i]) * uint64(factor)
		product[i] = uint32(carry)
		carry >>= limbBits
	}
	product[len(a)] = uint32(carry)
	return trim(product)
}

// divideSmall returns a quotient and a remainder; the divisor is not 0.
func divideSmall(a api.Nat, divisor uint32) (api.Nat, uint32) {
	quotient := make(api.Nat, len(a))
	var rest uint32
	for k := range len(a) {
		i := len(a) - 1 - k
		quotient[i], rest = bits.Div32(rest, a[i], divisor)
	}
	return trim(quotient), rest
}

// divide returns a quotient and a remainder; b is not 0. It is long division in limbs: each digit of the quotient is guessed from the upper limbs, which needs a divisor whose highest bit is set.
func divide(a, b api.Nat) (api.Nat, api.Nat) {
	a, b = trim(a), trim(b)
	if len(a) < len(b) {
		return nil, own(a)
	}
	if len(b) == 1 {
		quotient, rest := divideSmall(a, b[0])
		return quotient, trim(api.Nat{rest})
	}
	shift := bits.LeadingZeros32(b[len(b)-1])
	divisor := shiftUp(b, shift)[:len(b)]
	rest := shiftUp(a, shift)
	quotient := make(api.Nat, len(a)-len(b)+1)
	for k := range len(quotient) {
		i := len(quotient) - 1 - k
		quotient[i] = takeDigit(rest[i:i+len(b)+1], divisor)
	}
	return trim(quotient), shiftDown(rest, shift)
}

// shiftUp returns a 2^n, for n below 32, with one limb more than a, be it 0 or not.
func shiftUp(a api.Nat, n int) api.Nat {
	up := make(api.Nat, len(a)+1)
	var carry uint64
	for i := range len(a) {
		carry |= uint64(a[i]) << n
		up[i] = uint32(carry)
		carry >>= limbBits
	}
	up[len(a)] = uint32(carry)
	return up
}

// shiftDown returns a / 2^n, for n below 32.
func shiftDown(a api.Nat, n int) api.Nat {
	down := make(api.Nat, len(a))
	for i := range len(a) {
		pair := uint64(limb(a, i+1))<<limbBits | uint64(a[i])
		down[i] = uint32(pair >> n)
	}
	return trim(down)
}

// takeDigit returns the quotient of rest and divisor, which is less than 2^32, and leaves the remainder in rest.
func takeDigit(rest, divisor api.Nat) uint32 {
	digit := guessDigit(rest, divisor)
	if takeTimes(rest, divisor, digit) {
		giveBack(rest, divisor)
		digit--
	}
	return digit
}

// guessDigit returns the quotient of rest and divisor, or one more.
func guessDigit(rest, divisor api.Nat) uint32 {
	n := len(divisor)
	top, next := uint64(divisor[n-1]), uint64(divisor[n-2])
	upper := uint64(rest[n])<<limbBits | uint64(rest[n-1])
	digit, left := upper/top, upper%top
	for digit > limbMask || digit*next > left<<limbBits|uint64(rest[n-2]) {
		digit--
		left += top
		if left > limbMask {
			break
		}
	}
	return uint32(digit)
}

// takeTimes subtracts divisor digit from rest, modulo the size of rest, and reports whether that was more than rest.
func takeTimes(rest, divisor api.Nat, digit uint32) bool {
	var carry uint64
	var borrow uint32
	for i := range len(divisor) {
		carry += uint64(divisor[i]) * uint64(digit)
		rest[i], borrow = bits.Sub32(rest[i], uint32(carry), borrow)
		carry >>= limbBits
	}
	last := len(divisor)
	rest[last], borrow = bits.Sub32(rest[last], uint32(carry), borrow)
	return borrow != 0
}

// giveBack adds divisor to rest, modulo the size of rest.
func giveBack(rest, divisor api.Nat) {
	var carry uint32
	for i := range len(divisor) {
		rest[i], carry = bits.Add32(rest[i], divisor[i], carry)
	}
	rest[len(divisor)] += carry
}

func gcd(a, b api.Nat) api.Nat {
	a, b = own(a), own(b)
	for len(b) > 0 {
		_, rest := divide(a, b)
		a, b = b, rest
	}
	return a
}
