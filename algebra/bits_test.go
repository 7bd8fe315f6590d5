package algebra_test

import (
	"fmt"
	"math"
	"slices"
	"strings"
	"testing"

	"waveplate/algebra"
	"waveplate/api"
)

// P2.5.
func TestParityAndCount(t *testing.T) {
	r := newRand()
	for _, n := range []int{0, 1, 2, 3, 64, 513, 65536, 65537, 200000} {
		for range 20 {
			b := randomBits(r, n)
			count := 0
			for _, bit := range b {
				if bit {
					count++
				}
			}
			if algebra.Count(b) != count || algebra.Parity(b) != (count&1 == 1) {
				t.Errorf("%d of %d bits are true: Count %d, Parity %v", count, n, algebra.Count(b), algebra.Parity(b))
			}
		}
	}
}

// P2.5.
func TestDistanceAndXor(t *testing.T) {
	r := newRand()
	for _, n := range []int{0, 1, 2, 5, 64, 65537, 100000} {
		for range 10 {
			a, b := randomBits(r, n), randomBits(r, n)
			distance := 0
			for i := range a {
				if a[i] != b[i] {
					distance++
				}
			}
			d, e := algebra.Distance(a, b)
			wantOne(t, "Distance", d, e, distance, api.OK)
			x, e := algebra.Xor(a, b)
			want(t, "Xor", x, e, xorBits(a, b), api.OK)
			for _, other := range [][]bool{append(slices.Clone(b), false), append(slices.Clone(b), true)} {
				d, e = algebra.Distance(a, other)
				wantOne(t, "Distance", d, e, 0, api.ErrEqual)
				d, e = algebra.Distance(other, a)
				wantOne(t, "Distance", d, e, 0, api.ErrEqual)
				x, e = algebra.Xor(a, other)
				want(t, "Xor", x, e, nil, api.ErrEqual)
				x, e = algebra.Xor(other, a)
				want(t, "Xor", x, e, nil, api.ErrEqual)
			}
		}
	}
}

// P2.6.
func TestPickAndDrop(t *testing.T) {
	r := newRand()
	for _, n := range []int{1, 2, 3, 10, 600} {
		for range 50 {
			b := randomBits(r, n)
			at := make([]int, r.IntN(2*n))
			var picked, kept []bool
			for i := range at {
				at[i] = r.IntN(n)
				picked = append(picked, b[at[i]])
			}
			for i := range b {
				if !slices.Contains(at, i) {
					kept = append(kept, b[i])
				}
			}
			what := fmt.Sprint(short(b), " at ", at)
			x, e := algebra.Pick(b, at)
			want(t, "Pick of "+what, x, e, picked, api.OK)
			x, e = algebra.Drop(b, at)
			want(t, "Drop of "+what, x, e, kept, api.OK)
		}
	}
}

// P2.6: at the ends, and beyond them.
func TestIndexes(t *testing.T) {
	for _, n := range []int{0, 1, 2, 8, 1000} {
		b := make([]bool, n)
		for _, i := range append(slices.Clone(edgeInts), n-1, n, n+1, -n) {
			for _, at := range [][]int{{i}, {0, i}, {i, 0}, {n - 1, i, n - 1}} {
				bad := slices.ContainsFunc(at, func(i int) bool { return i < 0 || i >= n })
				err, picks := api.OK, len(at)
				if bad {
					err, picks = api.ErrRange, 0
				}
				x, e := algebra.Pick(b, at)
				want(t, fmt.Sprint("Pick of ", n, " bits at ", at), x, e, make([]bool, picks), err)
				kept := 0
				for i := range n {
					if !bad && !slices.Contains(at, i) {
						kept++
					}
				}
				x, e = algebra.Drop(b, at)
				want(t, fmt.Sprint("Drop of ", n, " bits at ", at), x, e, make([]bool, kept), err)
			}
		}
		x, e := algebra.Pick(b, nil)
		want(t, "Pick at no indexes", x, e, nil, api.OK)
		x, e = algebra.Drop(b, nil)
		want(t, "Drop at no indexes", x, e, b, api.OK)
	}
}

// P2.7.
func TestTextAndParse(t *testing.T) {
	r := newRand()
	for _, n := range []int{0, 1, 2, 64, 65536, 65537, 300000} {
		b := randomBits(r, n)
		text := algebra.Text(b)
		if !slices.Equal(bits(text), b) || strings.Trim(text, "01") != "" {
			t.Errorf("the text of %s: %.20s", short(b), text)
		}
		got, e := algebra.Parse(text)
		want(t, "Parse", got, e, b, api.OK)
		for _, bad := range []string{"2", " ", "\n", "\x00", "/", "-", "a", "é", "０", "\xff", "\xb1", "١"} {
			for _, at := range []int{0, n / 2, n} {
				got, e := algebra.Parse(text[:at] + bad + text[at:])
				want(t, fmt.Sprintf("Parse with %q", bad), got, e, nil, api.ErrForm)
			}
		}
	}
	for c := range 256 {
		got, e := algebra.Parse(string([]byte{byte(c)}))
		switch c {
		case '0':
			want(t, "Parse of 0", got, e, []bool{false}, api.OK)
		case '1':
			want(t, "Parse of 1", got, e, []bool{true}, api.OK)
		default:
			want(t, fmt.Sprintf("Parse of the byte %d", c), got, e, nil, api.ErrForm)
		}
	}
}

// P2.8.
func TestWord(t *testing.T) {
	r := newRand()
	for n := range 70 {
		for range 20 {
			b := randomBits(r, n)
			x, e := algebra.Word(b)
			if n > 64 {
				wantOne(t, "Word of "+short(b), x, e, 0, api.ErrLong)
				continue
			}
			var number uint64
			for i := range b {
				if b[n-1-i] {
					number += 1 << i
				}
			}
			wantOne(t, "Word of "+short(b), x, e, number, api.OK)
		}
		b := make([]bool, n)
		if n > 64 {
			x, e := algebra.Word(b)
			wantOne(t, fmt.Sprintf("Word of %d false bits", n), x, e, 0, api.ErrLong)
		}
	}
	x, e := algebra.Word(slices.Repeat([]bool{true}, 64))
	wantOne(t, "Word of 64 true bits", x, e, math.MaxUint64, api.OK)
	x, e = algebra.Word(make([]bool, 1000000))
	wantOne(t, "Word of a million bits", x, e, 0, api.ErrLong)
}

// P2.8.
func TestNumber(t *testing.T) {
	r := newRand()
	numbers := []uint64{0, 1, 2, 3, math.MaxUint64, math.MaxUint64 - 1, 1 << 63, 1<<63 - 1, r.Uint64()}
	for i := range 64 {
		numbers = append(numbers, 1<<i, 1<<i-1, r.Uint64()>>i)
	}
	for _, n := range numbers {
		for width := range 65 {
			b, e := algebra.Number(n, width)
			what := fmt.Sprintf("Number(%d, %d)", n, width)
			if width < 64 && n >= 1<<width {
				want(t, what, b, e, nil, api.ErrOver)
				continue
			}
			if back, err := algebra.Word(b); len(b) != width || back != n || e != api.OK || err != api.OK {
				t.Errorf("%s: %s, %d", what, short(b), e)
			}
		}
		for _, width := range edgeInts {
			if width < 0 || width > 64 {
				b, e := algebra.Number(n, width)
				want(t, fmt.Sprintf("Number(%d, %d)", n, width), b, e, nil, api.ErrRange)
			}
		}
	}
}

// packed returns the bytes of a bit string, by their definition.
func packed(b []bool) []byte {
	p := make([]byte, (len(b)+7)/8)
	for i, bit := range b {
		if bit {
			p[i/8] |= 128 >> (i % 8)
		}
	}
	return p
}

// P2.9.
func TestPackAndUnpack(t *testing.T) {
	r := newRand()
	for _, n := range append(slices.Clone(edgeInts), 10, 23, 24, 25, 100000) {
		if n < 0 || n > 100000 {
			continue
		}
		for range 10 {
			b := randomBits(r, n)
			p := packed(b)
			want(t, "Pack", algebra.Pack(b), api.OK, p, api.OK)
			got, e := algebra.Unpack(p, n)
			want(t, "Unpack", got, e, b, api.OK)
			// Every bit that the last byte has beyond the bits has to be false.
			for i := n; i < 8*len(p); i++ {
				bad := slices.Clone(p)
				bad[len(bad)-1] |= 128 >> (i % 8)
				got, e := algebra.Unpack(bad, n)
				want(t, fmt.Sprintf("Unpack with n = %d and bit %d", n, i), got, e, nil, api.ErrForm)
			}
		}
	}
}

// P2.9: ErrRange for lengths that do not fit, also where the bytes are not those of a bit string.
func TestUnpackLengths(t *testing.T) {
	for _, count := range []int{0, 1, 2, 3, 8, 64} {
		for _, filler := range []byte{0, 1, 255} {
			p := slices.Repeat([]byte{filler}, count)
			for _, n := range append(slices.Clone(edgeInts), 8*count-9, 8*count-8, 8*count-7, 8*count-1, 8*count, 8*count+1, math.MaxInt-7, math.MaxInt-6) {
				got, e := algebra.Unpack(p, n)
				what := fmt.Sprintf("Unpack of %d bytes %d with n = %d", count, filler, n)
				switch {
				case n < 0 || n > 8*count || n <= 8*count-8:
					want(t, what, got, e, nil, api.ErrRange)
				case filler > 0 && n < 8*count:
					want(t, what, got, e, nil, api.ErrForm)
				default:
					want(t, what, algebra.Pack(got), e, p, api.OK)
				}
			}
		}
	}
}

// The chapter's examples of bit strings.
func TestBitStringExamples(t *testing.T) {
	if !algebra.Parity(bits("1101")) || algebra.Count(bits("1101")) != 3 {
		t.Error("Parity or Count of 1101")
	}
	d, e := algebra.Distance(bits("1100"), bits("0110"))
	wantOne(t, "Distance", d, e, 2, api.OK)
	b, e := algebra.Pick(bits("1100"), []int{3, 0, 0})
	want(t, "Pick", b, e, bits("011"), api.OK)
	b, e = algebra.Drop(bits("1100"), []int{3, 0, 0})
	want(t, "Drop", b, e, bits("10"), api.OK)
	x, e := algebra.Word(bits("0101"))
	wantOne(t, "Word", x, e, 5, api.OK)
	b, e = algebra.Number(5, 4)
	want(t, "Number(5, 4)", b, e, bits("0101"), api.OK)
	b, e = algebra.Number(5, 2)
	want(t, "Number(5, 2)", b, e, nil, api.ErrOver)
	want(t, "Pack of 101", algebra.Pack(bits("101")), api.OK, []byte{160}, api.OK)
	want(t, "Pack of 111111111", algebra.Pack(bits("111111111")), api.OK, []byte{255, 128}, api.OK)
	b, e = algebra.Unpack([]byte{160}, 3)
	want(t, "Unpack with n = 3", b, e, bits("101"), api.OK)
	b, e = algebra.Unpack([]byte{160}, 2)
	want(t, "Unpack with n = 2", b, e, nil, api.ErrForm)
	b, e = algebra.Unpack([]byte{160}, 9)
	want(t, "Unpack with n = 9", b, e, nil, api.ErrRange)
	// The first error of two.
	b, e = algebra.Number(math.MaxUint64, 65)
	want(t, "Number of a wrong width", b, e, nil, api.ErrRange)
	b, e = algebra.Number(1, -1)
	want(t, "Number of a negative width", b, e, nil, api.ErrRange)
}
