package distil

import (
	"waveplate/algebra"
	"waveplate/api"
)

// Tag returns the tag of a message.
func Tag(w int, key, pad uint64, m []bool) (uint64, api.Errno) {
	switch {
	case !isWidth(w):
		return 0, api.ErrArg
	case !fits(key, w) || !fits(pad, w):
		return 0, api.ErrRange
	}
	hash, e := algebra.Hash(w, key, m)
	if e != api.OK {
		return 0, e
	}
	return hash ^ pad, api.OK
}

// Forgeries returns with how many pairs of a key and a pad two messages have two tags.
func Forgeries(w int, m []bool, tag uint64, other []bool, forged uint64) (int, api.Errno) {
	switch {
	case !isSmallWidth(w):
		return 0, api.ErrArg
	case !fits(tag, w) || !fits(forged, w):
		return 0, api.ErrRange
	case len(m) > api.MaxBlock || len(other) > api.MaxBlock:
		return 0, api.ErrLong
	}
	// With each key, just one pad gives m its tag; it gives other the forged one if the hashes differ as the tags do.
	return countKeys(w, m, other, tag^forged), api.OK
}
