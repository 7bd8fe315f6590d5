package distil_test

import (
	"fmt"
	"slices"
	"testing"

	"waveplate/algebra"
	"waveplate/api"
	"waveplate/distil"
)

func checkTag(t *testing.T, w int, key, pad uint64, m []bool) api.Errno {
	t.Helper()
	got, e := distil.Tag(w, key, pad, m)
	tag, err := modelTag(w, key, pad, m)
	wantOne(t, fmt.Sprintf("Tag(%d, %d, %d) of %d bits, %s", w, key, pad, len(m), short(m)), got, e, tag, err)
	return err
}

// checkForgeries compares with the number of keys with which the hashes differ as the tags do, or with an error.
func checkForgeries(t *testing.T, w int, m []bool, tag uint64, other []bool, forged uint64) (int, api.Errno) {
	t.Helper()
	var n int
	var err api.Errno
	switch {
	case w != 8 && w != 16:
		err = api.ErrArg
	case !isElement(w, tag) || !isElement(w, forged):
		err = api.ErrRange
	case len(m) > 512 || len(other) > 512:
		err = api.ErrLong
	default:
		n = countPairs(w, m, other, tag^forged)
	}
	got, e := distil.Forgeries(w, m, tag, other, forged)
	wantOne(t, fmt.Sprintf("Forgeries(%d, %s, %d, %s, %d)", w, short(m), tag, short(other), forged), got, e, n, err)
	return n, err
}

// P6.9: any tags.
func TestTags(t *testing.T) {
	r := newRand()
	met := tally{}
	for range 3000 {
		w, valid := anyWidth(r)
		m := randomBits(r, r.IntN(100))
		if rarely(r, 100) {
			m = make([]bool, 65536+r.IntN(2))
		}
		met[checkTag(t, w, anyWord(r, valid), anyWord(r, valid), m)]++
	}
	met.wantAll(t, api.OK, api.ErrArg, api.ErrRange, api.ErrLong)
}

// P6.9: the width comes before the key and the pad, and these before the message.
func TestTagErrors(t *testing.T) {
	long := make([]bool, 65537)
	for _, w := range edgeInts {
		for _, key := range edgeWords {
			for _, pad := range edgeWords {
				for _, m := range [][]bool{nil, long} {
					if m != nil && slices.Contains(widths, w) && isElement(w, key) && isElement(w, pad) {
						continue
					}
					checkTag(t, w, key, pad, m)
				}
			}
		}
	}
	for _, w := range widths {
		wantError(t, "a message of 65,537 bits", checkTag(t, w, 2, 3, long), api.ErrLong)
		wantError(t, "a message of 65,536 bits", checkTag(t, w, 2, 3, long[1:]), api.OK)
	}
}

// P6.9: tags that another program computed.
func TestKnownTags(t *testing.T) {
	for _, x := range []struct {
		w        int
		key, pad uint64
		m        string
		want     uint64
	}{
		{8, 2, 5, knownMessage, 0x5a}, {8, 2, 5, "", 0x1a}, {8, 2, 5, knownBlock, 0xe},
		{8, 0xff, 0xff, knownMessage, 0x28}, {8, 0xff, 0xff, "", 0x89},
		{16, 0x1234, 0xfedc, knownMessage, 0x9539}, {16, 0x1234, 0xfedc, knownBlock, 0x79fe}, {16, 0xffff, 1, "", 0xaa16},
		{32, 0xdeadbeef, 0x12345678, knownMessage, 0x4c6596a9}, {32, 0xdeadbeef, 0x12345678, knownBlock, 0x619febfc}, {32, 0xffffffff, 0, "", 0x55555fe3},
	} {
		tag, e := distil.Tag(x.w, x.key, x.pad, bitsOf(x.m))
		wantOne(t, fmt.Sprint("Tag ", x), tag, e, x.want, api.OK)
	}
}

// P6.9 and P6.18: forgeries of any messages and tags. They are bounded, and each pair that fits what was seen accepts just one tag of another message.
func TestForgeries(t *testing.T) {
	r := newRand()
	met := map[int]int{}
	for range 15 {
		m, tag := randomBits(r, r.IntN(60)), r.Uint64()%256
		other := randomBits(r, r.IntN(60))
		if rarely(r, 2) && len(m) > 0 {
			other = flip(m, r.IntN(len(m)))
		}
		words, _ := algebra.Words(8, max(len(m), len(other)))
		sum := 0
		for forged := range uint64(256) {
			n, e := checkForgeries(t, 8, m, tag, other, forged)
			wantError(t, "Forgeries", e, api.OK)
			sum += n
			met[n]++
			if n > words && !(slices.Equal(m, other) && tag == forged) {
				t.Errorf("%d forgeries of %s, %d to %s, %d", n, short(m), tag, short(other), forged)
			}
		}
		wantOne(t, "all forgeries", sum, api.OK, 256, api.OK)
	}
	for n := range 4 {
		if met[n] == 0 {
			t.Errorf("never %d forgeries", n)
		}
	}
}

// P6.9: the pairs of a key and a pad, all tried.
func TestForgeriesAreAllPairs(t *testing.T) {
	r := newRand()
	for i := range 6 {
		m, other, tag := randomBits(r, r.IntN(12)), randomBits(r, r.IntN(30)), r.Uint64()%256
		if i == 0 {
			other = m
		}
		count := map[uint64]int{}
		for key := range uint64(256) {
			for pad := range uint64(256) {
				x, _ := distil.Tag(8, key, pad, m)
				y, _ := distil.Tag(8, key, pad, other)
				if x == tag {
					count[y]++
				}
			}
		}
		for forged := range uint64(256) {
			n, e := distil.Forgeries(8, m, tag, other, forged)
			wantOne(t, "Forgeries", n, e, count[forged], api.OK)
		}
	}
}

// P6.9 and P6.18: the width 16, and the greatest messages.
func TestGreatForgeries(t *testing.T) {
	r := newRand()
	a := randomBits(r, 512)
	checkForgeries(t, 16, a, 65535, flip(a, 100), 65535)
	checkForgeries(t, 8, a, 255, flip(a, 0, 511), 7)
	for _, w := range []int{8, 16} {
		n, e := distil.Forgeries(w, a, 99, a, 99)
		wantOne(t, "nothing is replaced", n, e, 1<<w, api.OK)
		n, e = distil.Forgeries(w, a, 99, a, 98)
		wantOne(t, "the tag is replaced", n, e, 0, api.OK)
	}
	block, short := bitsOf(knownBlock), bitsOf("0110")
	for _, x := range []struct {
		xor  uint64
		want int
	}{{0, 2}, {5, 0}, {4660, 1}} {
		n, e := distil.Forgeries(16, block, 40000^x.xor, short, 40000)
		wantOne(t, "what another program counted", n, e, x.want, api.OK)
	}
}

// P6.9: the width comes before the tags, and these before the lengths.
func TestForgeryErrors(t *testing.T) {
	lengths := []int{0, 512, 513}
	for _, w := range edgeInts {
		for _, tag := range edgeWords {
			for _, forged := range edgeWords {
				for _, n := range lengths {
					for _, m := range lengths {
						if (w == 8 || w == 16) && isElement(w, tag) && isElement(w, forged) && max(n, m) <= 512 {
							continue
						}
						checkForgeries(t, w, make([]bool, n), tag, make([]bool, m), forged)
					}
				}
			}
		}
	}
}

// The chapter's examples of tags.
func TestTagExamples(t *testing.T) {
	tag, e := distil.Tag(8, 2, 5, bitsOf("00000001"))
	wantOne(t, "Tag", tag, e, 18, api.OK)
	n, e := distil.Forgeries(8, bitsOf("0"), 7, bitsOf("0"), 7)
	wantOne(t, "Forgeries of the same tag", n, e, 256, api.OK)
	n, e = distil.Forgeries(8, bitsOf("0"), 7, bitsOf("0"), 8)
	wantOne(t, "Forgeries of another tag", n, e, 0, api.OK)
}
