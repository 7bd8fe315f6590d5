package exact_test

import (
	"math"
	"math/big"
	"slices"
	"strings"
	"testing"

	"waveplate/api"
	"waveplate/exact"
)

// P1.1.
func TestCheck(t *testing.T) {
	for n, want := range map[int]api.Errno{0: api.OK, 1: api.OK, 63: api.OK, 64: api.OK, 65: api.ErrLong, 1000: api.ErrLong} {
		if e := exact.Check(make(api.Nat, n)); e != want {
			t.Errorf("%d zeros: %d, want %d", n, e, want)
		}
		if e := exact.Check(full(n)); e != want {
			t.Errorf("%d full limbs: %d, want %d", n, e, want)
		}
	}
}

// P1.1.
func TestNorm(t *testing.T) {
	for _, x := range []struct{ in, want api.Nat }{
		{nil, nil},
		{api.Nat{}, nil},
		{api.Nat{0}, nil},
		{make(api.Nat, 64), nil},
		{api.Nat{5, 0, 0}, api.Nat{5}},
		{api.Nat{0, 0, 7, 0}, api.Nat{0, 0, 7}},
		{api.Nat{1, 2, 3}, api.Nat{1, 2, 3}},
		{full(64), full(64)},
	} {
		got, e := exact.Norm(x.in)
		wantNat(t, "Norm", got, e, x.want, api.OK)
	}
}

// P1.1.
func TestOfAndSmall(t *testing.T) {
	for _, x := range []struct {
		n    uint64
		want api.Nat
	}{
		{0, nil},
		{1, api.Nat{1}},
		{topLimb, api.Nat{topLimb}},
		{1 << 32, api.Nat{0, 1}},
		{1<<32 + 5, api.Nat{5, 1}},
		{math.MaxUint64, api.Nat{topLimb, topLimb}},
	} {
		wantNat(t, "Of", exact.Of(x.n), api.OK, x.want, api.OK)
		for _, zeros := range []int{0, 1, 60} {
			a := append(slices.Clone(x.want), make(api.Nat, zeros)...)
			if n, e := exact.Small(a); n != x.n || e != api.OK {
				t.Errorf("Small of %v: %d, %d", a, n, e)
			}
		}
	}
	for _, a := range []api.Nat{{0, 0, 1}, {5, 6, 7}, {0, 0, 0, 1}, full(64)} {
		if n, e := exact.Small(a); n != 0 || e != api.ErrOver {
			t.Errorf("Small of %v: %d, %d", a, n, e)
		}
	}
}

// P1.2.
func TestCompare(t *testing.T) {
	order := []api.Nat{nil, {1}, {2}, {topLimb}, {0, 1}, {1, 1}, {2, 1}, {0, 2}, {topLimb, topLimb}, {0, 0, 1}, full(63), full(64)}
	for i, a := range order {
		for j, b := range order {
			want := 0
			if i < j {
				want = -1
			} else if i > j {
				want = 1
			}
			if c, e := exact.Compare(a, b); c != want || e != api.OK {
				t.Errorf("%v and %v: %d, %d, want %d", a, b, c, e, want)
			}
		}
	}
	for _, x := range [][2]api.Nat{{{5, 0, 0}, {5}}, {{0, 0}, nil}, {{}, nil}, {{5}, {5, 0}}} {
		if c, e := exact.Compare(x[0], x[1]); c != 0 || e != api.OK {
			t.Errorf("%v and %v: %d, %d, want 0", x[0], x[1], c, e)
		}
	}
	if c, e := exact.Compare(api.Nat{3, 0, 0}, api.Nat{1, 1}); c != -1 || e != api.OK {
		t.Errorf("3 0 0 and 1 1: %d, %d, want -1", c, e)
	}
}

// P1.2.
func TestBits(t *testing.T) {
	for _, x := range []struct {
		a    api.Nat
		want int
	}{
		{nil, 0}, {api.Nat{0, 0}, 0}, {api.Nat{1}, 1}, {api.Nat{2}, 2}, {api.Nat{3}, 2}, {api.Nat{4, 0}, 3}, {api.Nat{255}, 8},
		{api.Nat{topLimb}, 32}, {api.Nat{0, 1}, 33}, {full(64), 2048},
	} {
		if n, e := exact.Bits(x.a); n != x.want || e != api.OK {
			t.Errorf("Bits of %v: %d, %d, want %d", x.a, n, e, x.want)
		}
	}
	for n := range 2048 {
		if got, e := exact.Bits(power(n)); got != n+1 || e != api.OK {
			t.Errorf("Bits of 2^%d: %d, %d", n, got, e)
		}
	}
}

// P1.3.
func TestSumsAtTheLimit(t *testing.T) {
	a, e := exact.Add(full(64), nil)
	wantNat(t, "2^2048 - 1 and 0", a, e, full(64), api.OK)
	a, e = exact.Add(full(64), api.Nat{1})
	wantNat(t, "2^2048 - 1 and 1", a, e, nil, api.ErrOver)
	a, e = exact.Add(power(2047), power(2047))
	wantNat(t, "2^2047 and 2^2047", a, e, nil, api.ErrOver)
	a, e = exact.Add(full(63), api.Nat{1})
	wantNat(t, "2^2016 - 1 and 1", a, e, power(2016), api.OK)
	a, e = exact.Add(append(api.Nat{3}, make(api.Nat, 63)...), append(api.Nat{4}, make(api.Nat, 63)...))
	wantNat(t, "3 and 4 with zeros", a, e, api.Nat{7}, api.OK)
	a, e = exact.Sub(power(2047), api.Nat{1})
	wantNat(t, "2^2047 - 1", a, e, append(full(63), 1<<31-1), api.OK)
}

// P1.3.
func TestDifferences(t *testing.T) {
	for _, x := range []struct {
		a, b, want api.Nat
		e          api.Errno
	}{
		{api.Nat{0, 1}, api.Nat{1}, api.Nat{topLimb}, api.OK},
		{api.Nat{0, 0, 1}, api.Nat{1}, api.Nat{topLimb, topLimb}, api.OK},
		{api.Nat{1}, api.Nat{2}, nil, api.ErrRange},
		{nil, api.Nat{1}, nil, api.ErrRange},
		{full(63), full(64), nil, api.ErrRange},
		{api.Nat{7, 0, 0}, api.Nat{0, 1}, nil, api.ErrRange},
		{api.Nat{7}, api.Nat{7, 0, 0}, nil, api.OK},
		{full(64), full(64), nil, api.OK},
		{nil, nil, nil, api.OK},
		{api.Nat{0}, nil, nil, api.OK},
	} {
		got, e := exact.Sub(x.a, x.b)
		wantNat(t, "Sub", got, e, x.want, x.e)
	}
}

// P1.3.
func TestProductsAtTheLimit(t *testing.T) {
	a, e := exact.Mul(api.Nat{topLimb}, api.Nat{topLimb})
	wantNat(t, "(2^32 - 1)^2", a, e, api.Nat{1, topLimb - 1}, api.OK)
	a, e = exact.Mul(power(1024), power(1023))
	wantNat(t, "2^2047", a, e, power(2047), api.OK)
	a, e = exact.Mul(power(1024), power(1024))
	wantNat(t, "2^2048", a, e, nil, api.ErrOver)
	a, e = exact.Mul(full(64), full(64))
	wantNat(t, "(2^2048 - 1)^2", a, e, nil, api.ErrOver)
	a, e = exact.Mul(full(64), api.Nat{2})
	wantNat(t, "2 (2^2048 - 1)", a, e, nil, api.ErrOver)
	a, e = exact.Mul(full(64), api.Nat{1, 0, 0})
	wantNat(t, "2^2048 - 1", a, e, full(64), api.OK)
	a, e = exact.Mul(full(64), make(api.Nat, 64))
	wantNat(t, "0", a, e, nil, api.OK)
	a, e = exact.Mul(append(api.Nat{3}, make(api.Nat, 63)...), append(api.Nat{4}, make(api.Nat, 63)...))
	wantNat(t, "3 and 4 with zeros", a, e, api.Nat{12}, api.OK)
}

// P1.4.
func TestQuotients(t *testing.T) {
	for _, x := range []struct {
		a, b, q, r api.Nat
		e          api.Errno
	}{
		{api.Nat{100}, api.Nat{7}, api.Nat{14}, api.Nat{2}, api.OK},
		{api.Nat{1}, api.Nat{0}, nil, nil, api.ErrZero},
		{api.Nat{1}, nil, nil, nil, api.ErrZero},
		{nil, make(api.Nat, 64), nil, nil, api.ErrZero},
		{nil, api.Nat{7}, nil, nil, api.OK},
		{api.Nat{6, 0}, api.Nat{7, 0, 0}, nil, api.Nat{6}, api.OK},
		{api.Nat{7}, api.Nat{7}, api.Nat{1}, nil, api.OK},
		{api.Nat{6}, api.Nat{0, 1}, nil, api.Nat{6}, api.OK},
		{full(64), api.Nat{1}, full(64), nil, api.OK},
		{full(64), full(64), api.Nat{1}, nil, api.OK},
		{full(64), full(63), api.Nat{0, 1}, api.Nat{topLimb}, api.OK},
		// The guessed digit, 4, is one too high, which only the lowest limbs show.
		{api.Nat{3, 0, 1 << 31}, api.Nat{1, 0, 1 << 29}, api.Nat{3}, api.Nat{0, 0, 1 << 29}, api.OK},
		// The upper limbs are equal, so that the first guess exceeds a limb.
		{api.Nat{0, 0, 0, 1 << 31}, api.Nat{1, 0, 1 << 31}, api.Nat{topLimb}, api.Nat{1, topLimb, 1<<31 - 1}, api.OK},
	} {
		q, r, e := exact.Divide(x.a, x.b)
		wantNat(t, "quotient", q, e, x.q, x.e)
		wantNat(t, "remainder", r, e, x.r, x.e)
	}
}

// P1.4.
func TestGcd(t *testing.T) {
	for _, x := range []struct{ a, b, want api.Nat }{
		{api.Nat{12}, api.Nat{18}, api.Nat{6}},
		{api.Nat{18}, api.Nat{12}, api.Nat{6}},
		{api.Nat{0}, api.Nat{5}, api.Nat{5}},
		{api.Nat{5, 0, 0}, nil, api.Nat{5}},
		{nil, api.Nat{5, 0, 0}, api.Nat{5}},
		{api.Nat{0, 0}, api.Nat{}, nil},
		{api.Nat{7}, api.Nat{7}, api.Nat{7}},
		{api.Nat{7}, api.Nat{9}, api.Nat{1}},
		{full(64), full(32), full(32)},
	} {
		got, e := exact.Gcd(x.a, x.b)
		wantNat(t, "Gcd", got, e, x.want, api.OK)
	}
}

// P1.2, P1.3 and P1.4, against another implementation.
func TestArithmetic(t *testing.T) {
	r := newRand()
	for range 20000 {
		most := 1 + r.IntN(api.MaxLimbs)
		a, b := randomNat(r, most), randomNat(r, 1+r.IntN(most))
		if r.IntN(2) == 0 {
			a, b = b, a
		}
		x, y := toBig(a), toBig(b)
		if c, e := exact.Compare(a, b); c != x.Cmp(y) || e != api.OK {
			t.Errorf("%v and %v: %d, %d", a, b, c, e)
		}
		if n, e := exact.Bits(a); n != x.BitLen() || e != api.OK {
			t.Errorf("Bits of %v: %d, %d", a, n, e)
		}
		sum, e := exact.Add(a, b)
		wantBig(t, "Add", sum, e, new(big.Int).Add(x, y))
		product, e := exact.Mul(a, b)
		wantBig(t, "Mul", product, e, new(big.Int).Mul(x, y))
		rest, e := exact.Sub(a, b)
		if x.Cmp(y) < 0 {
			wantNat(t, "Sub", rest, e, nil, api.ErrRange)
		} else {
			wantBig(t, "Sub", rest, e, new(big.Int).Sub(x, y))
		}
		quotient, rest, e := exact.Divide(a, b)
		if y.Sign() == 0 {
			wantNat(t, "quotient", quotient, e, nil, api.ErrZero)
			wantNat(t, "remainder", rest, e, nil, api.ErrZero)
			continue
		}
		q, m := new(big.Int).QuoRem(x, y, new(big.Int))
		wantBig(t, "quotient", quotient, e, q)
		wantBig(t, "remainder", rest, e, m)
	}
}

// P1.4, against another implementation.
func TestGcdOfProducts(t *testing.T) {
	r := newRand()
	for range 500 {
		common := randomNat(r, 20)
		a, _ := exact.Mul(common, randomNat(r, 40))
		b, _ := exact.Mul(common, randomNat(r, 40))
		got, e := exact.Gcd(a, b)
		wantBig(t, "Gcd", got, e, new(big.Int).GCD(nil, nil, toBig(a), toBig(b)))
	}
}

// P1.11.
func TestLaws(t *testing.T) {
	r := newRand()
	sum := func(a, b api.Nat) api.Nat { n, _ := exact.Add(a, b); return n }
	product := func(a, b api.Nat) api.Nat { n, _ := exact.Mul(a, b); return n }
	equal := func(what string, a, b api.Nat) {
		t.Helper()
		if !slices.Equal(a, b) {
			t.Errorf("%s: %v and %v", what, a, b)
		}
	}
	for range 2000 {
		a, b, c := randomNat(r, 20), randomNat(r, 20), randomNat(r, 20)
		equal("a + b and b + a", sum(a, b), sum(b, a))
		equal("(a + b) + c and a + (b + c)", sum(sum(a, b), c), sum(a, sum(b, c)))
		equal("a b and b a", product(a, b), product(b, a))
		equal("(a b) c and a (b c)", product(product(a, b), c), product(a, product(b, c)))
		equal("a (b + c) and a b + a c", product(a, sum(b, c)), sum(product(a, b), product(a, c)))
		if q, rest, e := exact.Divide(a, b); e == api.OK {
			whole, _ := exact.Norm(a)
			equal("q b + r and a", sum(product(q, b), rest), whole)
			if less, _ := exact.Compare(rest, b); less != -1 {
				t.Errorf("the remainder %v of %v and %v", rest, a, b)
			}
		}
	}
}

// P1.5.
func TestText(t *testing.T) {
	for _, x := range []struct {
		a    api.Nat
		want string
	}{
		{nil, "0"},
		{make(api.Nat, 64), "0"},
		{api.Nat{7, 0, 0}, "7"},
		{api.Nat{999999999}, "999999999"},
		{api.Nat{1000000000}, "1000000000"},
		{api.Nat{1000000001}, "1000000001"},
		{api.Nat{topLimb}, "4294967295"},
		{api.Nat{0, 0, 1}, "18446744073709551616"},
		{full(64), toBig(full(64)).String()},
	} {
		if s, e := exact.Text(x.a); s != x.want || e != api.OK {
			t.Errorf("Text of %v: %q, %d, want %q", x.a, s, e, x.want)
		}
	}
}

// P1.5.
func TestParse(t *testing.T) {
	for _, x := range []struct {
		s    string
		want api.Nat
	}{
		{"0", nil},
		{"7", api.Nat{7}},
		{"10", api.Nat{10}},
		{"4294967296", api.Nat{0, 1}},
		{"18446744073709551616", api.Nat{0, 0, 1}},
	} {
		got, e := exact.Parse(x.s)
		wantNat(t, x.s, got, e, x.want, api.OK)
	}
}

// P1.5 and P1.15.
func TestParseRefusesOtherTexts(t *testing.T) {
	for _, s := range []string{
		"", "00", "01", "007", "-1", "+1", " 1", "1 ", "1\n", "\n1", "1_000", "1,000", "1.0", "1e3", "0x1f", "a", "1a", "a1", "/", ":", "1/1",
		"\x00", "1\x00", "\u0661", "\xff", "\uff11", "- 1", "1 2",
		strings.Repeat("0", 618), strings.Repeat("9", 618), "1" + strings.Repeat("0", 617), strings.Repeat("9", 100000),
		"0" + strings.Repeat("9", 616), strings.Repeat("9", 616) + "a",
	} {
		got, e := exact.Parse(s)
		wantNat(t, "Parse of "+s, got, e, nil, api.ErrForm)
	}
}

// P1.5.
func TestParseAtTheLimit(t *testing.T) {
	limit := toBig(power(2047))
	limit.Lsh(limit, 1)
	if len(limit.String()) != 617 {
		t.Fatal("2^2048 has not 617 digits")
	}
	below := new(big.Int).Sub(limit, big.NewInt(1))
	got, e := exact.Parse(below.String())
	wantNat(t, "2^2048 - 1", got, e, full(64), api.OK)
	for _, s := range []string{limit.String(), strings.Repeat("9", 617)} {
		got, e := exact.Parse(s)
		wantNat(t, s, got, e, nil, api.ErrOver)
	}
}

// P1.5 and P1.15.
func TestTextsOfNumbersAreReadAsTheyWere(t *testing.T) {
	r := newRand()
	for range 2000 {
		a := randomNat(r, 1+r.IntN(api.MaxLimbs))
		s, e := exact.Text(a)
		if s != toBig(a).String() || e != api.OK {
			t.Errorf("Text of %v: %q, %d", a, s, e)
		}
		got, e := exact.Parse(s)
		wantBig(t, "Parse", got, e, toBig(a))
	}
	for n := range uint64(2000) {
		s, _ := exact.Text(exact.Of(n))
		got, e := exact.Parse(s)
		wantNat(t, s, got, e, exact.Of(n), api.OK)
	}
}
