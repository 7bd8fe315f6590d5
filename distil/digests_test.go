package distil_test

import (
	"fmt"
	"slices"
	"testing"

	"waveplate/algebra"
	"waveplate/api"
	"waveplate/distil"
)

// known are messages of the tests with values that another program computed.
const (
	knownMessage = "0110100101110"
	knownBlock   = "110100111010010111010001101010001111010101101010"
)

func checkDigest(t *testing.T, w int, key uint64, block []bool) (uint64, api.Errno) {
	t.Helper()
	h, e := distil.Digest(w, key, block)
	digest, err := modelDigest(w, key, block)
	wantOne(t, fmt.Sprintf("Digest(%d, %d) of %d bits, %s", w, key, len(block), short(block)), h, e, digest, err)
	return digest, err
}

func checkConfirm(t *testing.T, w int, key uint64, block []bool, digest uint64) api.Errno {
	t.Helper()
	err := modelConfirm(w, key, block, digest)
	what := fmt.Sprintf("Confirm(%d, %d, %d) of %d bits, %s", w, key, digest, len(block), short(block))
	wantError(t, what, distil.Confirm(w, key, block, digest), err)
	return err
}

// countPairs counts the keys with which the hashes of two bit strings have this xor, by the definition of the hash.
func countPairs(w int, a, b []bool, xor uint64) int {
	n := 0
	for key := range uint64(1) << w {
		if hash(w, key, a)^hash(w, key, b) == xor {
			n++
		}
	}
	return n
}

// P6.4: any widths, keys, blocks and digests.
func TestDigests(t *testing.T) {
	r := newRand()
	digests, confirmed := tally{}, tally{}
	for range 4000 {
		w, valid := anyWidth(r)
		key, block := anyWord(r, valid), anyBlock(r)
		digest, e := checkDigest(t, w, key, block)
		digests[e]++
		if rarely(r, 3) {
			digest = anyWord(r, valid)
		}
		confirmed[checkConfirm(t, w, key, block, digest)]++
	}
	digests.wantAll(t, api.OK, api.ErrLong, api.ErrArg, api.ErrRange)
	confirmed.wantAll(t, api.OK, api.ErrLong, api.ErrArg, api.ErrRange, api.ErrSum)
}

// P6.4: all edges of widths and keys, and the greatest block.
func TestDigestErrors(t *testing.T) {
	for _, w := range edgeInts {
		for _, key := range edgeWords {
			for _, n := range []int{0, 512, 513} {
				digest, _ := checkDigest(t, w, key, make([]bool, n))
				for _, d := range []uint64{digest, digest + 1, digest + 1<<32} {
					checkConfirm(t, w, key, make([]bool, n), d)
				}
			}
		}
	}
}

// P6.4: digests that another program computed.
func TestKnownDigests(t *testing.T) {
	for _, x := range []struct {
		w      int
		key    uint64
		block  string
		digest uint64
	}{
		{8, 2, "", 0x1a ^ 5}, {8, 2, knownMessage, 0x5a ^ 5}, {8, 255, knownBlock, 0xca ^ 0xff},
		{16, 0x1234, knownMessage, 0x9539 ^ 0xfedc}, {16, 0xffff, knownBlock, 0xde2f ^ 1},
		{32, 0xdeadbeef, knownMessage, 0x4c6596a9 ^ 0x12345678}, {32, 0xffffffff, knownBlock, 0xabe701de},
	} {
		h, e := distil.Digest(x.w, x.key, bitsOf(x.block))
		wantOne(t, "Digest", h, e, x.digest, api.OK)
		wantError(t, "Confirm", distil.Confirm(x.w, x.key, bitsOf(x.block), x.digest), api.OK)
		for i := range 64 {
			wantError(t, "Confirm", distil.Confirm(x.w, x.key, bitsOf(x.block), x.digest^1<<i), api.ErrSum)
		}
	}
}

func checkCollisions(t *testing.T, w int, a, b []bool, n int, err api.Errno) {
	t.Helper()
	for _, l := range [][2][]bool{{a, b}, {b, a}} {
		got, e := distil.Collisions(w, l[0], l[1])
		wantOne(t, fmt.Sprintf("Collisions(%d) of %s and %s", w, short(l[0]), short(l[1])), got, e, n, err)
	}
}

// P6.5 and P6.15: the collisions of any blocks are what the definition says, and no more than the longer one has words.
func TestCollisions(t *testing.T) {
	r := newRand()
	met := map[int]int{}
	for range 400 {
		a := randomBits(r, r.IntN(60))
		b := randomBits(r, r.IntN(60))
		if rarely(r, 2) && len(a) > 0 {
			b = flip(a, r.IntN(len(a)), r.IntN(len(a)))
		}
		n := countPairs(8, a, b, 0)
		met[n]++
		checkCollisions(t, 8, a, b, n, api.OK)
		words, _ := algebra.Words(8, max(len(a), len(b)))
		if slices.Equal(a, b) {
			words = 256
		}
		if n > words {
			t.Errorf("%d collisions of %s and %s", n, short(a), short(b))
		}
	}
	for n := 1; n <= 4; n++ {
		if met[n] == 0 {
			t.Errorf("no blocks had %d collisions", n)
		}
	}
}

// P6.5: collisions that another program counted; there are as many as words.
func TestKnownCollisions(t *testing.T) {
	checkCollisions(t, 8, bitsOf("1011011001"), bitsOf("01110001000001010111011101001011011101010"), 7, api.OK)
	checkCollisions(t, 8, bitsOf("11110100101111111001001000001101101"), bitsOf("0000101010001110110000001"), 6, api.OK)
	checkCollisions(t, 16, bitsOf(knownBlock), bitsOf("0110"), 2, api.OK)
	checkCollisions(t, 16, bitsOf(knownBlock), bitsOf(knownBlock[:47]+"1"), 1, api.OK)
}

// P6.5 and P6.15: the greatest blocks.
func TestCollisionsOfGreatBlocks(t *testing.T) {
	r := newRand()
	a := randomBits(r, 512)
	for _, w := range []int{8, 16} {
		checkCollisions(t, w, a, a, 1<<w, api.OK)
		b := flip(a, 0, 300, 511)
		n := countPairs(w, a, b, 0)
		checkCollisions(t, w, a, b, n, api.OK)
		if words, _ := algebra.Words(w, 512); n > words {
			t.Errorf("%d collisions", n)
		}
	}
}

// P6.5: the width comes before the lengths of both blocks.
func TestCollisionErrors(t *testing.T) {
	lengths := []int{0, 512, 513, 100000}
	for _, w := range edgeInts {
		for _, n := range lengths {
			for _, m := range lengths {
				switch {
				case w != 8 && w != 16:
					checkCollisions(t, w, make([]bool, n), make([]bool, m), 0, api.ErrArg)
				case max(n, m) > 512:
					checkCollisions(t, w, make([]bool, n), make([]bool, m), 0, api.ErrLong)
				}
			}
		}
	}
}

// P6.15: a digest that is confirmed for another block is one of the collisions.
func TestConfirmedByAccident(t *testing.T) {
	r := newRand()
	total := 0
	for range 100 {
		a := randomBits(r, 1+r.IntN(40))
		b := flip(a, r.IntN(len(a)))
		if rarely(r, 2) {
			b = randomBits(r, r.IntN(100))
		}
		accepted := 0
		for key := range uint64(256) {
			digest, _ := distil.Digest(8, key, a)
			wantError(t, "Confirm", distil.Confirm(8, key, a, digest), api.OK)
			if distil.Confirm(8, key, b, digest) == api.OK {
				accepted++
			}
		}
		n, e := distil.Collisions(8, a, b)
		wantOne(t, "Collisions", n, e, accepted, api.OK)
		total += accepted
	}
	if total <= 100 {
		t.Errorf("only %d collisions", total)
	}
}

// The chapter's examples of collisions.
func TestCollisionExamples(t *testing.T) {
	n, e := distil.Collisions(8, nil, nil)
	wantOne(t, "of empty blocks", n, e, 256, api.OK)
	n, e = distil.Collisions(8, bitsOf("0"), bitsOf("1"))
	wantOne(t, "of 0 and 1", n, e, 1, api.OK)
	n, e = distil.Collisions(32, bitsOf("0"), bitsOf("1"))
	wantOne(t, "with the width 32", n, e, 0, api.ErrArg)
}
