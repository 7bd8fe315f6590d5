package algebra

import (
	"iter"

	"waveplate/api"
)

// Words returns how many words a bit string has.
func Words(w, n int) (int, api.Errno) {
	if _, ok := fieldOf(w); !ok {
		return 0, api.ErrArg
	}
	if !isLength(n) {
		return 0, api.ErrRange
	}
	return n/w + 2, api.OK
}

// Hash returns the hash of a bit string.
func Hash(w int, key uint64, m []bool) (uint64, api.Errno) {
	f, ok := fieldOf(w)
	switch {
	case !ok:
		return 0, api.ErrArg
	case !f.has(key):
		return 0, api.ErrRange
	case !isLength(len(m)):
		return 0, api.ErrLong
	}
	var hash uint64
	for word := range words(w, m) {
		hash = f.mul(hash^word, key)
	}
	return hash, api.OK
}

// words returns the words of a bit string, one after the other.
func words(w int, m []bool) iter.Seq[uint64] {
	return func(yield func(uint64) bool) {
		if !yield(1) {
			return
		}
		from := 0
		for ; from+w <= len(m); from += w {
			if !yield(number(m, from, w)) {
				return
			}
		}
		yield(lastWord(w, m[from:]))
	}
}

// lastWord returns the word of the bits that do not fill one, with a true bit after them.
func lastWord(w int, rest []bool) uint64 {
	return number(rest, 0, w) | 1<<(w-1-len(rest))
}

// Toeplitz returns the Toeplitz hash of a bit string.
func Toeplitz(seed, a []bool, out int) ([]bool, api.Errno) {
	n := len(a)
	switch {
	case n > api.MaxBlock:
		return nil, api.ErrLong
	case out < 0 || out > api.MaxBlock:
		return nil, api.ErrRange
	case len(seed) != max(n+out-1, 0):
		return nil, api.ErrEqual
	}
	// Each true bit of a adds a part of the seed: the column of its index in the matrix.
	hash := make([]bool, out)
	for j, bit := range a {
		if bit {
			from := n - 1 - j
			hash = sum(hash, seed[from:from+out], differ)
		}
	}
	return hash, api.OK
}
