package algebra

import "waveplate/api"

// Parity returns whether an odd number of bits are true.
func Parity(b []bool) bool { return Count(b)%2 == 1 }

// Count returns the number of true bits.
func Count(b []bool) int {
	n := 0
	for _, bit := range b {
		if bit {
			n++
		}
	}
	return n
}

// Distance returns the number of indexes at which two bit strings differ.
func Distance(a, b []bool) (int, api.Errno) {
	x, e := Xor(a, b)
	return Count(x), e
}

// Xor returns the bit string that is true where two bit strings differ.
func Xor(a, b []bool) ([]bool, api.Errno) {
	if len(a) != len(b) {
		return nil, api.ErrEqual
	}
	return sum(a, b, differ), api.OK
}

// Pick returns the bits with some indexes.
func Pick(b []bool, at []int) ([]bool, api.Errno) {
	if !areIndexes(at, len(b)) {
		return nil, api.ErrRange
	}
	picked := make([]bool, len(at))
	for i, from := range at {
		picked[i] = b[from]
	}
	return picked, api.OK
}

// Drop returns all bits but those with some indexes.
func Drop(b []bool, at []int) ([]bool, api.Errno) {
	if !areIndexes(at, len(b)) {
		return nil, api.ErrRange
	}
	dropped := make([]bool, len(b))
	for _, i := range at {
		dropped[i] = true
	}
	var kept []bool
	for i, bit := range b {
		if !dropped[i] {
			kept = append(kept, bit)
		}
	}
	return kept, api.OK
}

// areIndexes reports whether all of these numbers are indexes of a list of n elements.
func areIndexes(at []int, n int) bool {
	for _, i := range at {
		if i < 0 || i >= n {
			return false
		}
	}
	return true
}

// sum adds two lists of one length, element by element: the sum of two bits is differ, that of two bytes is xor.
func sum[T any](a, b []T, add func(x, y T) T) []T {
	l := make([]T, len(a))
	for i := range l {
		l[i] = add(a[i], b[i])
	}
	return l
}

// differ is the sum of two bits.
func differ(x, y bool) bool { return x != y }

// xor is the sum of two bytes.
func xor(x, y byte) byte { return x ^ y }
