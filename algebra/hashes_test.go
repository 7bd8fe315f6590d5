package algebra_test

import (
	"fmt"
	"math"
	"slices"
	"testing"

	"waveplate/algebra"
	"waveplate/api"
)

// wordsOf returns the words of a bit string, by their definition.
func wordsOf(w int, m []bool) []uint64 {
	filled := append(slices.Clone(m), true)
	for len(filled)%w > 0 {
		filled = append(filled, false)
	}
	l := []uint64{1}
	for part := range slices.Chunk(filled, w) {
		var number uint64
		for _, bit := range part {
			number *= 2
			if bit {
				number++
			}
		}
		l = append(l, number)
	}
	return l
}

// hashOf returns the hash of a bit string: the sum of all products of a word and a power of the key.
func hashOf(w int, key uint64, m []bool) uint64 {
	l := wordsOf(w, m)
	var sum uint64
	power := uint64(1)
	for i := len(l) - 1; i >= 0; i-- {
		power = times(w, power, key)
		sum ^= times(w, power, l[i])
	}
	return sum
}

// P2.11.
func TestWords(t *testing.T) {
	for _, w := range widths {
		for n := range 200 {
			count, e := algebra.Words(w, n)
			wantOne(t, fmt.Sprintf("Words(%d, %d)", w, n), count, e, len(wordsOf(w, make([]bool, n))), api.OK)
		}
		for _, n := range edgeInts {
			count, e := algebra.Words(w, n)
			what := fmt.Sprintf("Words(%d, %d)", w, n)
			if n < 0 || n > 65536 {
				wantOne(t, what, count, e, 0, api.ErrRange)
				continue
			}
			wantOne(t, what, count, e, len(wordsOf(w, make([]bool, n))), api.OK)
		}
	}
}

// P2.11.
func TestHash(t *testing.T) {
	r := newRand()
	for _, w := range widths {
		for n := range 100 {
			for _, key := range []uint64{0, 1, 2, 1<<w - 1, r.Uint64() >> (64 - w)} {
				for _, m := range [][]bool{make([]bool, n), slices.Repeat([]bool{true}, n), randomBits(r, n)} {
					h, e := algebra.Hash(w, key, m)
					wantOne(t, fmt.Sprintf("Hash(%d, %d, %s)", w, key, algebra.Text(m)), h, e, hashOf(w, key, m), api.OK)
				}
			}
		}
		for _, n := range []int{1000, 4096, 65535, 65536} {
			key, m := r.Uint64()>>(64-w), randomBits(r, n)
			h, e := algebra.Hash(w, key, m)
			wantOne(t, fmt.Sprintf("Hash(%d, %d) of %d bits", w, key, n), h, e, hashOf(w, key, m), api.OK)
		}
	}
}

// P2.11: ErrRange comes before ErrLong.
func TestHashErrors(t *testing.T) {
	for _, w := range widths {
		for _, n := range []int{0, 5, 65536, 65537, 200000} {
			m := make([]bool, n)
			for _, key := range []uint64{1 << w, 1<<w + 1, 1 << 40, math.MaxUint64} {
				h, e := algebra.Hash(w, key, m)
				wantOne(t, fmt.Sprintf("Hash(%d, %d) of %d bits", w, key, n), h, e, 0, api.ErrRange)
			}
			if n > 65536 {
				for _, key := range []uint64{0, 1, 1<<w - 1} {
					h, e := algebra.Hash(w, key, m)
					wantOne(t, fmt.Sprintf("Hash(%d, %d) of %d bits", w, key, n), h, e, 0, api.ErrLong)
				}
			}
		}
	}
}

// checkCollisions fails if two different bit strings of a list have the same hash for more keys than the longer one has words. The hashes are those of all the keys.
func checkCollisions(t *testing.T, w int, list [][]bool) {
	t.Helper()
	hashes := make([][]uint64, len(list))
	for i, m := range list {
		for key := range uint64(1) << w {
			h, e := algebra.Hash(w, key, m)
			if e != api.OK {
				t.Fatal(e)
			}
			hashes[i] = append(hashes[i], h)
		}
	}
	for i, a := range list {
		for j, b := range list[:i] {
			if slices.Equal(a, b) {
				continue
			}
			same := 0
			for key := range hashes[i] {
				if hashes[i][key] == hashes[j][key] {
					same++
				}
			}
			if most := max(len(wordsOf(w, a)), len(wordsOf(w, b))); same > most {
				t.Errorf("width %d: %s and %s have the same hash for %d keys, of at most %d", w, algebra.Text(a), algebra.Text(b), same, most)
			}
		}
	}
}

// P2.18: with all keys of the width 8 or 16.
func TestCollisions(t *testing.T) {
	var list [][]bool
	for n := range 6 {
		list = append(list, allBits(n)...)
	}
	r := newRand()
	for n := range 30 {
		b := randomBits(r, n)
		list = append(list, b, append(slices.Clone(b), false), append(slices.Clone(b), true), append([]bool{false}, b...), append(make([]bool, 8), b...))
	}
	checkCollisions(t, 8, list)
	var few [][]bool
	for _, n := range []int{0, 1, 15, 16, 17} {
		few = append(few, make([]bool, n), randomBits(r, n))
	}
	checkCollisions(t, 16, few)
	long := randomBits(r, 300)
	for i := range 40 {
		other := slices.Clone(long)
		other[7*i] = !other[7*i]
		checkCollisions(t, 8, [][]bool{long, other, other[:299-i]})
	}
}

// toeplitzOf returns the Toeplitz hash, by its definition.
func toeplitzOf(seed, a []bool, out int) []bool {
	n := len(a)
	h := make([]bool, out)
	for i := range h {
		count := 0
		for j := range n {
			if a[j] && seed[i+n-1-j] {
				count++
			}
		}
		h[i] = count%2 == 1
	}
	return h
}

// P2.12.
func TestToeplitz(t *testing.T) {
	r := newRand()
	lengths := []int{0, 1, 2, 3, 8, 31, 100, 511, 512}
	for _, n := range lengths {
		for _, out := range lengths {
			for _, a := range [][]bool{randomBits(r, n), slices.Repeat([]bool{true}, n), make([]bool, n)} {
				seed := randomBits(r, max(n+out-1, 0))
				h, e := algebra.Toeplitz(seed, a, out)
				want(t, fmt.Sprintf("Toeplitz of %d bits to %d", n, out), h, e, toeplitzOf(seed, a, out), api.OK)
			}
			for _, wrong := range []int{n + out - 2, n + out, n + out + 1, 2 * (n + out), n} {
				if wrong < 0 || wrong == max(n+out-1, 0) {
					continue
				}
				h, e := algebra.Toeplitz(randomBits(r, wrong), randomBits(r, n), out)
				want(t, fmt.Sprintf("Toeplitz of %d bits to %d with a seed of %d", n, out, wrong), h, e, nil, api.ErrEqual)
			}
		}
	}
}

// P2.12: ErrLong comes before ErrRange, and that before ErrEqual.
func TestToeplitzErrors(t *testing.T) {
	for _, n := range []int{0, 1, 512, 513, 514, 70000} {
		for _, out := range edgeInts {
			if n <= 512 && out >= 0 && out <= 512 {
				continue
			}
			for _, count := range []int{0, 1, n, 1023, 1024, n + 511} {
				h, e := algebra.Toeplitz(make([]bool, count), make([]bool, n), out)
				err := api.ErrRange
				if n > 512 {
					err = api.ErrLong
				}
				want(t, fmt.Sprintf("Toeplitz of %d bits to %d with a seed of %d", n, out, count), h, e, nil, err)
			}
		}
	}
}

// P2.19: the hash of a sum is the sum of the hashes.
func TestToeplitzSums(t *testing.T) {
	r := newRand()
	for range 200 {
		n, out := r.IntN(40), r.IntN(40)
		seed := randomBits(r, max(n+out-1, 0))
		a, b := randomBits(r, n), randomBits(r, n)
		x, e := algebra.Toeplitz(seed, a, out)
		y, f := algebra.Toeplitz(seed, b, out)
		if e != api.OK || f != api.OK {
			t.Fatal(e, f)
		}
		h, e := algebra.Toeplitz(seed, xorBits(a, b), out)
		want(t, "Toeplitz of a xor", h, e, xorBits(x, y), api.OK)
	}
}

// P2.19: each result has just 2^(n - 1) seeds.
func TestToeplitzSeeds(t *testing.T) {
	for n := 1; n <= 5; n++ {
		for out := range 5 {
			for _, a := range allBits(n) {
				if algebra.Count(a) == 0 {
					continue
				}
				count := map[string]int{}
				for _, seed := range allBits(n + out - 1) {
					h, e := algebra.Toeplitz(seed, a, out)
					if e != api.OK {
						t.Fatal(e)
					}
					count[algebra.Text(h)]++
				}
				for _, h := range allBits(out) {
					if got := count[algebra.Text(h)]; got != 1<<(n-1) {
						t.Errorf("%s to %s: %d seeds, want %d", algebra.Text(a), algebra.Text(h), got, 1<<(n-1))
					}
				}
			}
		}
	}
}

// The chapter's examples of hashes.
func TestHashExamples(t *testing.T) {
	n, e := algebra.Words(8, 0)
	wantOne(t, "Words(8, 0)", n, e, 2, api.OK)
	n, e = algebra.Words(8, 8)
	wantOne(t, "Words(8, 8)", n, e, 3, api.OK)
	h, e := algebra.Hash(8, 2, nil)
	wantOne(t, "Hash of the empty bit string", h, e, 31, api.OK)
	h, e = algebra.Hash(8, 2, bits("00000001"))
	wantOne(t, "Hash of 00000001", h, e, 23, api.OK)
	b, e := algebra.Toeplitz(bits("1100"), bits("101"), 2)
	want(t, "Toeplitz", b, e, bits("11"), api.OK)
}
