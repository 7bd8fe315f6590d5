package distil

import (
	"waveplate/algebra"
	"waveplate/api"
)

// Digest returns the hash of a block.
func Digest(w int, key uint64, block []bool) (uint64, api.Errno) {
	if len(block) > api.MaxBlock {
		return 0, api.ErrLong
	}
	return algebra.Hash(w, key, block)
}

// Confirm compares the hash of a block with a digest.
func Confirm(w int, key uint64, block []bool, digest uint64) api.Errno {
	hash, e := Digest(w, key, block)
	switch {
	case e != api.OK:
		return e
	case hash != digest:
		return api.ErrSum
	}
	return api.OK
}

// Collisions returns the number of keys with which two blocks have the same hash.
func Collisions(w int, a, b []bool) (int, api.Errno) {
	switch {
	case !isSmallWidth(w):
		return 0, api.ErrArg
	case len(a) > api.MaxBlock || len(b) > api.MaxBlock:
		return 0, api.ErrLong
	}
	return countKeys(w, a, b, 0), api.OK
}

// countKeys returns the number of keys with which the xor of the hashes of two bit strings is what is given.
func countKeys(w int, a, b []bool, xor uint64) int {
	n := 0
	for key := range uint64(1) << w {
		x, _ := algebra.Hash(w, key, a)
		y, _ := algebra.Hash(w, key, b)
		if x^y == xor {
			n++
		}
	}
	return n
}
