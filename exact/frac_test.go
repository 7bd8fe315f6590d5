package exact_test

import (
	"math/big"
	"strings"
	"testing"

	"waveplate/api"
	"waveplate/exact"
)

// P1.6.
func TestReduce(t *testing.T) {
	for _, x := range []struct {
		f, want api.Frac
		e       api.Errno
	}{
		{frac(6, 8), frac(3, 4), api.OK},
		{frac(0, 5), frac(0, 1), api.OK},
		{frac(0, 1), frac(0, 1), api.OK},
		{frac(4, 2), frac(2, 1), api.OK},
		{frac(7, 7), frac(1, 1), api.OK},
		{frac(3, 4), frac(3, 4), api.OK},
		{frac(1, 0), api.Frac{}, api.ErrZero},
		{frac(0, 0), api.Frac{}, api.ErrZero},
		{api.Frac{}, api.Frac{}, api.ErrZero},
		{api.Frac{Num: api.Nat{1}, Den: make(api.Nat, 64)}, api.Frac{}, api.ErrZero},
		{api.Frac{Num: api.Nat{3, 0, 0}, Den: api.Nat{4, 0}}, frac(3, 4), api.OK},
		{api.Frac{Num: make(api.Nat, 64), Den: full(64)}, frac(0, 1), api.OK},
		{api.Frac{Num: full(64), Den: full(64)}, frac(1, 1), api.OK},
		{api.Frac{Num: full(64), Den: power(2047)}, api.Frac{Num: full(64), Den: power(2047)}, api.OK},
	} {
		got, e := exact.Reduce(x.f)
		wantFrac(t, "Reduce", got, e, x.want, x.e)
	}
}

// P1.6.
func TestCheckFrac(t *testing.T) {
	for _, x := range []struct {
		f    api.Frac
		want api.Errno
	}{
		{frac(1, 2), api.OK},
		{frac(2, 4), api.OK},
		{frac(0, 1), api.OK},
		{frac(5, 1), api.OK},
		{api.Frac{Num: full(64), Den: full(64)}, api.OK},
		{api.Frac{Num: make(api.Nat, 64), Den: api.Nat{0, 1, 0}}, api.OK},
		{frac(1, 0), api.ErrZero},
		{api.Frac{Num: api.Nat{1}, Den: make(api.Nat, 64)}, api.ErrZero},
		{api.Frac{Num: make(api.Nat, 65), Den: api.Nat{1}}, api.ErrLong},
		{api.Frac{Num: api.Nat{1}, Den: full(65)}, api.ErrLong},
		{api.Frac{Num: api.Nat{1}, Den: make(api.Nat, 65)}, api.ErrLong},
		{api.Frac{Num: make(api.Nat, 65), Den: nil}, api.ErrLong},
	} {
		if e := exact.CheckFrac(x.f); e != x.want {
			t.Errorf("CheckFrac of %v: %d, want %d", x.f, e, x.want)
		}
	}
}

// P1.6.
func TestFracText(t *testing.T) {
	for _, x := range []struct {
		f    api.Frac
		want string
		e    api.Errno
	}{
		{frac(4, 2), "2/1", api.OK},
		{frac(0, 9), "0/1", api.OK},
		{frac(6, 8), "3/4", api.OK},
		{frac(1, 0), "", api.ErrZero},
		{api.Frac{Num: power(2047), Den: full(64)}, toBig(power(2047)).String() + "/" + toBig(full(64)).String(), api.OK},
	} {
		if s, e := exact.FracText(x.f); s != x.want || e != x.e {
			t.Errorf("FracText of %v: %q, %d, want %q, %d", x.f, s, e, x.want, x.e)
		}
	}
}

// P1.6 and P1.15.
func TestFracParseRefusesOtherTexts(t *testing.T) {
	for _, s := range []string{
		"", "/", "1", "1/", "/1", "2/4", "6/3", "0/2", "0/0", "1/0", "5/5", "01/2", "1/02", "-1/2", "1/-2", "+1/2", "1/ 2", "1 /2", " 1/2", "1/2 ",
		"1/2/3", "1//2", "1/2/", "/1/2", "1/2\n", "1\\2", "1.5/2", "a/2", "1/a", "00/1",
		strings.Repeat("9", 618) + "/1", "1/" + strings.Repeat("9", 618), strings.Repeat("9", 618) + "/" + strings.Repeat("9", 617),
		strings.Repeat("9", 617) + "/" + strings.Repeat("9", 618), strings.Repeat("9", 617) + "/a", "a/" + strings.Repeat("9", 617),
		strings.Repeat("9", 617) + "/01", strings.Repeat("9", 617) + "/", strings.Repeat("9", 617),
	} {
		got, e := exact.FracParse(s)
		wantFrac(t, "FracParse of "+s, got, e, api.Frac{}, api.ErrForm)
	}
}

// P1.6.
func TestFracParseAtTheLimit(t *testing.T) {
	limit := new(big.Int).Lsh(big.NewInt(1), 2048).String()
	greatest := toBig(full(64)).String()
	got, e := exact.FracParse(greatest + "/1")
	wantFrac(t, "the greatest Num", got, e, api.Frac{Num: full(64), Den: api.Nat{1}}, api.OK)
	got, e = exact.FracParse("1/" + greatest)
	wantFrac(t, "the greatest Den", got, e, api.Frac{Num: api.Nat{1}, Den: full(64)}, api.OK)
	for _, s := range []string{limit + "/1", "1/" + limit, limit + "/2", limit + "/" + limit, limit + "/0", "0/" + limit, "2/" + limit} {
		got, e := exact.FracParse(s)
		wantFrac(t, s, got, e, api.Frac{}, api.ErrOver)
	}
}

// P1.6 and P1.15.
func TestTextsOfFractionsAreReadAsTheyWere(t *testing.T) {
	r := newRand()
	for range 300 {
		f := randomFrac(r, 1+r.IntN(api.MaxLimbs))
		s, e := exact.FracText(f)
		if s != toRat(f).String() || e != api.OK {
			t.Errorf("FracText of %v: %q, %d", f, s, e)
		}
		got, e := exact.FracParse(s)
		wantRat(t, s, got, e, toRat(f))
	}
	for n := range uint64(30) {
		for d := range uint64(30) {
			s := big.NewInt(int64(n)).String() + "/" + big.NewInt(int64(d)).String()
			got, e := exact.FracParse(s)
			if d > 0 && new(big.Int).GCD(nil, nil, big.NewInt(int64(n)), big.NewInt(int64(d))).Int64() == 1 {
				wantFrac(t, s, got, e, frac(n, d), api.OK)
			} else {
				wantFrac(t, s, got, e, api.Frac{}, api.ErrForm)
			}
		}
	}
}

// P1.7.
func TestFracCompare(t *testing.T) {
	huge := api.Frac{Num: full(64), Den: power(2047)}
	for _, x := range []struct {
		f, g api.Frac
		want int
	}{
		{frac(1, 3), frac(2, 6), 0},
		{frac(1, 3), frac(1, 2), -1},
		{frac(1, 2), frac(1, 3), 1},
		{frac(0, 3), frac(0, 7), 0},
		{frac(0, 3), frac(1, 7), -1},
		{frac(2, 1), huge, 1},
		{huge, frac(2, 1), -1},
		{huge, huge, 0},
		{api.Frac{Num: api.Nat{1, 0}, Den: api.Nat{3, 0, 0}}, frac(2, 6), 0},
	} {
		if c, e := exact.FracCompare(x.f, x.g); c != x.want || e != api.OK {
			t.Errorf("%v and %v: %d, %d, want %d", x.f, x.g, c, e, x.want)
		}
	}
}

// P1.7.
func TestSumsAndProductsOfFractions(t *testing.T) {
	got, e := exact.FracAdd(frac(1, 2), frac(1, 3))
	wantFrac(t, "1/2 + 1/3", got, e, frac(5, 6), api.OK)
	got, e = exact.FracAdd(frac(1, 2), frac(1, 2))
	wantFrac(t, "1/2 + 1/2", got, e, frac(1, 1), api.OK)
	got, e = exact.FracAdd(frac(0, 2), frac(0, 3))
	wantFrac(t, "0 + 0", got, e, frac(0, 1), api.OK)
	got, e = exact.FracSub(frac(1, 3), frac(1, 2))
	wantFrac(t, "1/3 - 1/2", got, e, api.Frac{}, api.ErrRange)
	got, e = exact.FracSub(frac(1, 2), frac(1, 3))
	wantFrac(t, "1/2 - 1/3", got, e, frac(1, 6), api.OK)
	got, e = exact.FracSub(frac(1, 2), frac(2, 4))
	wantFrac(t, "1/2 - 2/4", got, e, frac(0, 1), api.OK)
	got, e = exact.FracMul(frac(2, 3), frac(3, 4))
	wantFrac(t, "2/3 3/4", got, e, frac(1, 2), api.OK)
	got, e = exact.FracMul(frac(0, 3), frac(3, 4))
	wantFrac(t, "0/3 3/4", got, e, frac(0, 1), api.OK)
}

// P1.7.
func TestFractionsAtTheLimit(t *testing.T) {
	most := api.Frac{Num: full(64), Den: api.Nat{1}}
	least := api.Frac{Num: api.Nat{1}, Den: full(64)}
	one := api.Frac{Num: full(64), Den: full(64)}
	got, e := exact.FracAdd(most, frac(1, 1))
	wantFrac(t, "a Num that is too long", got, e, api.Frac{}, api.ErrOver)
	got, e = exact.FracAdd(least, frac(1, 2))
	wantFrac(t, "a Den that is too long", got, e, api.Frac{}, api.ErrOver)
	got, e = exact.FracSub(frac(1, 2), least)
	wantFrac(t, "a Den of a difference that is too long", got, e, api.Frac{}, api.ErrOver)
	got, e = exact.FracSub(least, frac(1, 2))
	wantFrac(t, "a difference that does not exist", got, e, api.Frac{}, api.ErrRange)
	got, e = exact.FracMul(least, frac(1, 2))
	wantFrac(t, "a Den of a product that is too long", got, e, api.Frac{}, api.ErrOver)
	got, e = exact.FracMul(most, frac(2, 1))
	wantFrac(t, "a Num of a product that is too long", got, e, api.Frac{}, api.ErrOver)
	// On the way to these the numbers have 128 limbs and more, but the results fit.
	got, e = exact.FracMul(most, least)
	wantFrac(t, "a product of 1", got, e, frac(1, 1), api.OK)
	got, e = exact.FracAdd(one, one)
	wantFrac(t, "a sum of 2", got, e, frac(2, 1), api.OK)
	got, e = exact.FracSub(one, one)
	wantFrac(t, "a difference of 0", got, e, frac(0, 1), api.OK)
	got, e = exact.FracMul(one, one)
	wantFrac(t, "a product of ones", got, e, frac(1, 1), api.OK)
	got, e = exact.FracSub(most, frac(1, 1))
	wantFrac(t, "2^2048 - 2", got, e, api.Frac{Num: append(api.Nat{topLimb - 1}, full(63)...), Den: api.Nat{1}}, api.OK)
}

// P1.6 and P1.7, against another implementation.
func TestFractionArithmetic(t *testing.T) {
	r := newRand()
	for range 500 {
		most := 1 + r.IntN(api.MaxLimbs)
		if r.IntN(2) == 0 {
			most = 1 + most/2
		}
		f, g := randomFrac(r, most), randomFrac(r, most)
		x, y := toRat(f), toRat(g)
		got, e := exact.Reduce(f)
		wantRat(t, "Reduce", got, e, x)
		if c, e := exact.FracCompare(f, g); c != x.Cmp(y) || e != api.OK {
			t.Errorf("%v and %v: %d, %d", f, g, c, e)
		}
		got, e = exact.FracAdd(f, g)
		wantRat(t, "FracAdd", got, e, new(big.Rat).Add(x, y))
		got, e = exact.FracMul(f, g)
		wantRat(t, "FracMul", got, e, new(big.Rat).Mul(x, y))
		got, e = exact.FracSub(f, g)
		if x.Cmp(y) < 0 {
			wantFrac(t, "FracSub", got, e, api.Frac{}, api.ErrRange)
		} else {
			wantRat(t, "FracSub", got, e, new(big.Rat).Sub(x, y))
		}
	}
}
