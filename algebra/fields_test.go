package algebra_test

import (
	"fmt"
	"math"
	mathbits "math/bits"
	"testing"

	"waveplate/algebra"
	"waveplate/api"
)

var widths = []int{8, 16, 32}

// modulus returns the polynomial of a field.
func modulus(w int) uint64 {
	low := map[int]uint64{8: 1<<4 | 1<<3 | 1<<1 | 1, 16: 1<<5 | 1<<3 | 1<<1 | 1, 32: 1<<7 | 1<<3 | 1<<2 | 1}
	return 1<<w | low[w]
}

// times returns a product in a field: the whole product of the polynomials, and what is left of it after a division.
func times(w int, a, b uint64) uint64 {
	var p uint64
	for i := range w {
		if b>>i&1 == 1 {
			p ^= a << i
		}
	}
	for p>>w > 0 {
		p ^= modulus(w) << (mathbits.Len64(p) - 1 - w)
	}
	return p
}

// elements returns some elements of a field: single powers, edges, and random ones.
func elements(w int) []uint64 {
	top := uint64(1)<<w - 1
	l := []uint64{0, 1, 2, 3, top, top - 1, top / 2, modulus(w) & top}
	r := newRand()
	for i := range w {
		l = append(l, 1<<i, r.Uint64()&top)
	}
	return l
}

// P2.10.
func TestMul(t *testing.T) {
	for _, w := range widths {
		for _, a := range elements(w) {
			for _, b := range elements(w) {
				p, e := algebra.Mul(w, a, b)
				wantOne(t, fmt.Sprintf("Mul(%d, %d, %d)", w, a, b), p, e, times(w, a, b), api.OK)
			}
		}
	}
	for a := range uint64(256) {
		for b := range uint64(256) {
			p, e := algebra.Mul(8, a, b)
			wantOne(t, fmt.Sprintf("Mul(8, %d, %d)", a, b), p, e, times(8, a, b), api.OK)
		}
	}
}

// P2.10.
func TestInverse(t *testing.T) {
	for _, w := range widths {
		l := elements(w)
		if w < 32 {
			for a := range uint64(1) << w {
				l = append(l, a)
			}
		}
		for _, a := range l {
			x, e := algebra.Inverse(w, a)
			if a == 0 {
				wantOne(t, "Inverse of 0", x, e, 0, api.ErrZero)
				continue
			}
			if e != api.OK || x>>w > 0 || times(w, a, x) != 1 {
				t.Errorf("Inverse(%d, %d): %d, %d", w, a, x, e)
			}
		}
	}
}

// P2.10 and P2.11, R7: other widths, before all other errors.
func TestWidthsThatAreNone(t *testing.T) {
	for _, w := range append([]int{3, 4, 5, 6, 24, 40, 48, 128, -8, -16, -32}, edgeInts...) {
		if w == 8 || w == 16 || w == 32 {
			continue
		}
		for _, x := range []uint64{0, 1, 255, 1 << 32, math.MaxUint64} {
			p, e := algebra.Mul(w, x, x)
			wantOne(t, fmt.Sprintf("Mul with the width %d", w), p, e, 0, api.ErrArg)
			p, e = algebra.Inverse(w, x)
			wantOne(t, fmt.Sprintf("Inverse with the width %d", w), p, e, 0, api.ErrArg)
			for _, n := range []int{0, 7, 65537} {
				p, e = algebra.Hash(w, x, make([]bool, n))
				wantOne(t, fmt.Sprintf("Hash with the width %d", w), p, e, 0, api.ErrArg)
			}
		}
		for _, n := range edgeInts {
			count, e := algebra.Words(w, n)
			wantOne(t, fmt.Sprintf("Words with the width %d", w), count, e, 0, api.ErrArg)
		}
	}
}

// P2.10: numbers that are no elements, whichever factor they are.
func TestNumbersThatAreNoElements(t *testing.T) {
	for _, w := range widths {
		for _, x := range []uint64{1 << w, 1<<w + 1, 1<<w | 1<<(w-1), 1 << 33, 1 << 63, math.MaxUint64} {
			for _, y := range []uint64{0, 1, 1<<w - 1, x} {
				p, e := algebra.Mul(w, x, y)
				wantOne(t, fmt.Sprintf("Mul(%d, %d, %d)", w, x, y), p, e, 0, api.ErrRange)
				p, e = algebra.Mul(w, y, x)
				wantOne(t, fmt.Sprintf("Mul(%d, %d, %d)", w, y, x), p, e, 0, api.ErrRange)
			}
			p, e := algebra.Inverse(w, x)
			wantOne(t, fmt.Sprintf("Inverse(%d, %d)", w, x), p, e, 0, api.ErrRange)
		}
	}
}

// mul returns a product, and fails with an error.
func mul(t *testing.T, w int, a, b uint64) uint64 {
	t.Helper()
	p, e := algebra.Mul(w, a, b)
	if e != api.OK || p>>w > 0 {
		t.Fatalf("Mul(%d, %d, %d): %d, %d", w, a, b, p, e)
	}
	return p
}

// P2.17.
func TestLawsOfFields(t *testing.T) {
	for _, w := range widths {
		l := elements(w)
		for _, a := range l {
			if mul(t, w, 1, a) != a || mul(t, w, a, 1) != a {
				t.Errorf("width %d: 1 is not neutral for %d", w, a)
			}
			for _, b := range l {
				ab := mul(t, w, a, b)
				if ab != mul(t, w, b, a) {
					t.Errorf("width %d: the product of %d and %d is not commutative", w, a, b)
				}
				if (ab == 0) != (a == 0 || b == 0) {
					t.Errorf("width %d: the product of %d and %d is %d", w, a, b, ab)
				}
				for _, c := range l {
					if mul(t, w, ab, c) != mul(t, w, a, mul(t, w, b, c)) {
						t.Errorf("width %d: the product of %d, %d and %d is not associative", w, a, b, c)
					}
					if mul(t, w, a, b^c) != ab^mul(t, w, a, c) {
						t.Errorf("width %d: %d times the sum of %d and %d is not distributive", w, a, b, c)
					}
				}
			}
		}
	}
	for a := range uint64(256) {
		for b := range uint64(256) {
			if p := mul(t, 8, a, b); (p == 0) != (a == 0 || b == 0) {
				t.Errorf("the product of %d and %d is %d", a, b, p)
			}
		}
	}
}

// The chapter's examples of fields.
func TestFieldExamples(t *testing.T) {
	p, e := algebra.Mul(8, 87, 131)
	wantOne(t, "Mul(8, 87, 131)", p, e, 193, api.OK)
	p, e = algebra.Inverse(8, 83)
	wantOne(t, "Inverse(8, 83)", p, e, 202, api.OK)
	p, e = algebra.Mul(16, 32768, 2)
	wantOne(t, "Mul(16, 32768, 2)", p, e, 43, api.OK)
	p, e = algebra.Mul(32, 2147483648, 2)
	wantOne(t, "Mul(32, 2147483648, 2)", p, e, 141, api.OK)
}
