package algebra_test

import (
	"fmt"
	"math"
	"math/big"
	"slices"
	"testing"

	"waveplate/algebra"
	"waveplate/api"
)

var seeds = []uint64{0, 1, 2, 5, 12345, 1<<32 - 1, 1 << 32, 1<<63 - 1, 1 << 63, 1<<64 - 2, 1<<64 - 1}

// drawn returns the first n numbers that are drawn from a seed, computed with integers that do not overflow.
func drawn(seed uint64, n int) []uint64 {
	all := new(big.Int).Lsh(big.NewInt(1), 64)
	a, _ := new(big.Int).SetString("4906513781625342421", 10)
	c, _ := new(big.Int).SetString("1181783497276652981", 10)
	m, _ := new(big.Int).SetString("7809847782465536323", 10)
	s := new(big.Int).SetUint64(seed)
	var l []uint64
	for range n {
		s.Mul(s, a).Add(s, c).Mod(s, all)
		x := new(big.Int).Quo(s, big.NewInt(1<<32))
		x.Xor(x, s)
		y := x.Mul(x, m).Mod(x, all)
		z := new(big.Int).Quo(y, big.NewInt(1<<29))
		l = append(l, z.Xor(z, y).Uint64())
	}
	return l
}

// wantNext fails unless the draws draw this number next.
func wantNext(t *testing.T, what string, d *algebra.Draws, number uint64) {
	t.Helper()
	if x := d.Copy().Next(); x != number {
		t.Errorf("%s: the next number is %d, want %d", what, x, number)
	}
}

// P2.1.
func TestNext(t *testing.T) {
	for _, seed := range seeds {
		d := algebra.New(seed)
		for i, x := range drawn(seed, 50) {
			if got := d.Next(); got != x {
				t.Errorf("the number %d of the seed %d: %d, want %d", i, seed, got, x)
			}
		}
	}
	// Numbers that another program computed.
	for seed, l := range map[uint64][]uint64{
		0:       {15172783039878314014, 13580733334959323710, 13169461908574506945, 4084948092858227472},
		5:       {7360741473227004031, 4192540228778287921, 14408037086966218233, 7858687248741142863},
		1 << 63: {6227931224299578858, 4635881483870043954, 3667569666599618613, 13029799959017643556},
	} {
		d := algebra.New(seed)
		for _, x := range l {
			if got := d.Next(); got != x {
				t.Errorf("seed %d: %d, want %d", seed, got, x)
			}
		}
	}
}

// P2.1, R4 and R5: a copy goes on as the original would, and neither changes the other one.
func TestCopy(t *testing.T) {
	for _, seed := range seeds {
		l := drawn(seed, 20)
		d := algebra.New(seed)
		for _, x := range l[:7] {
			c := d.Copy()
			if c == d {
				t.Fatal("the copy is the original")
			}
			wantNext(t, "the copy", c, x)
			c.Next()
			c.Next()
			wantNext(t, "the original", d, x)
			d.Next()
		}
		c := d.Copy()
		for _, x := range l[7:] {
			if got := d.Next(); got != x {
				t.Errorf("the original: %d, want %d", got, x)
			}
		}
		for _, x := range l[7:] {
			if got := c.Next(); got != x {
				t.Errorf("the copy: %d, want %d", got, x)
			}
		}
	}
	if a, b := algebra.New(1), algebra.New(1); a == b || a.Next() != b.Next() {
		t.Error("draws with the same seed are one object, or differ")
	}
}

// P2.1 to P2.4, R4: draws that are not valid give ErrNil before all other errors, and zero values.
func TestDrawsThatAreNotValid(t *testing.T) {
	assigned := *algebra.New(5)
	for name, d := range map[string]*algebra.Draws{"nil": nil, "a zero value": {}, "new": new(algebra.Draws), "an assigned copy": &assigned} {
		for _, n := range edgeInts {
			x, e := d.Below(n)
			wantOne(t, name+": Below", x, e, 0, api.ErrNil)
			b, e := d.Bits(n)
			want(t, name+": Bits", b, e, nil, api.ErrNil)
			l, e := d.Perm(n)
			want(t, name+": Perm", l, e, nil, api.ErrNil)
			for _, k := range edgeInts {
				l, e := d.Sample(n, k)
				want(t, name+": Sample", l, e, nil, api.ErrNil)
			}
		}
		for range 3 {
			if d.Next() != 0 {
				t.Errorf("%s: Next returns a number", name)
			}
		}
		if d.Copy() != nil {
			t.Errorf("%s: Copy returns draws", name)
		}
	}
}

// P2.2.
func TestBelow(t *testing.T) {
	for _, seed := range seeds {
		d, l := algebra.New(seed), drawn(seed, 2*len(edgeInts))
		for _, n := range edgeInts {
			x, e := d.Below(n)
			what := fmt.Sprintf("Below(%d), seed %d", n, seed)
			if n < 1 {
				wantOne(t, what, x, e, 0, api.ErrArg)
				wantNext(t, what, d, l[0])
				continue
			}
			number := new(big.Int).SetUint64(l[0])
			number.Mod(number, big.NewInt(int64(n)))
			wantOne(t, what, x, e, int(number.Int64()), api.OK)
			l = l[1:]
			wantNext(t, what, d, l[0])
		}
	}
	if x, e := algebra.New(0).Below(math.MaxInt); x != 15172783039878314014-math.MaxInt || e != api.OK {
		t.Error(x, e)
	}
}

// lengthCase is a seed, and how many elements are drawn from it.
type lengthCase struct {
	seed uint64
	n    int
}

// lengthCases are all seeds with short lengths, and one of them with all lengths.
func lengthCases() []lengthCase {
	var l []lengthCase
	for _, seed := range seeds {
		for _, n := range edgeInts {
			if n <= 600 || seed == 0 {
				l = append(l, lengthCase{seed, n})
			}
		}
	}
	return l
}

// P2.3.
func TestBits(t *testing.T) {
	for _, c := range lengthCases() {
		d := algebra.New(c.seed)
		b, e := d.Bits(c.n)
		what := fmt.Sprintf("Bits(%d), seed %d", c.n, c.seed)
		if c.n < 0 || c.n > 65536 {
			want(t, what, b, e, nil, api.ErrRange)
			wantNext(t, what, d, drawn(c.seed, 1)[0])
			continue
		}
		l := drawn(c.seed, c.n+1)
		odd := make([]bool, c.n)
		for i := range odd {
			odd[i] = l[i]&1 == 1
		}
		want(t, what, b, e, odd, api.OK)
		wantNext(t, what, d, l[c.n])
	}
}

// order returns the permutation of n numbers that these numbers draw, and how many of them it takes.
func order(n int, l []uint64) ([]int, int) {
	p := make([]int, n)
	for i := range p {
		p[i] = i
	}
	taken := 0
	for i := n - 1; i > 0; i-- {
		j := int(l[taken] % uint64(i+1))
		taken++
		p[i], p[j] = p[j], p[i]
	}
	return p, taken
}

// P2.4 and P2.16.
func TestPerm(t *testing.T) {
	for _, c := range lengthCases() {
		d := algebra.New(c.seed)
		p, e := d.Perm(c.n)
		what := fmt.Sprintf("Perm(%d), seed %d", c.n, c.seed)
		if c.n < 0 || c.n > 65536 {
			want(t, what, p, e, nil, api.ErrRange)
			wantNext(t, what, d, drawn(c.seed, 1)[0])
			continue
		}
		l := drawn(c.seed, c.n+1)
		right, taken := order(c.n, l)
		want(t, what, p, e, right, api.OK)
		wantNext(t, what, d, l[taken])
		slices.Sort(p)
		for i, x := range p {
			if i != x {
				t.Fatalf("%s: %d is not in it once", what, i)
			}
		}
	}
}

// P2.4.
func TestSample(t *testing.T) {
	for _, n := range []int{0, 1, 2, 3, 10, 300, 65536} {
		for _, k := range slices.Concat(edgeInts, []int{n - 1, n, n + 1, n / 2}) {
			d := algebra.New(9)
			s, e := d.Sample(n, k)
			what := fmt.Sprintf("Sample(%d, %d)", n, k)
			if k < 0 || k > n {
				want(t, what, s, e, nil, api.ErrRange)
				wantNext(t, what, d, drawn(9, 1)[0])
				continue
			}
			same := algebra.New(9)
			p, _ := same.Perm(n)
			first := slices.Clone(p[:k])
			slices.Sort(first)
			want(t, what, s, e, first, api.OK)
			wantNext(t, what, d, same.Next())
		}
	}
	for _, n := range []int{math.MinInt, -2, -1, 65537, math.MaxInt} {
		for _, k := range edgeInts {
			d := algebra.New(9)
			s, e := d.Sample(n, k)
			want(t, fmt.Sprintf("Sample(%d, %d)", n, k), s, e, nil, api.ErrRange)
			wantNext(t, "Sample", d, drawn(9, 1)[0])
		}
	}
}

// P2.16: the step of the state and what is made of it both have an inverse.
func TestFirstNumbersDiffer(t *testing.T) {
	have := map[uint64]uint64{}
	r := newRand()
	for i := range uint64(200000) {
		for _, seed := range []uint64{i, i << 32, i << 44, ^i} {
			x := algebra.New(seed).Next()
			if other, ok := have[x]; ok && other != seed {
				t.Fatalf("the seeds %d and %d both begin with %d", seed, other, x)
			}
			have[x] = seed
		}
		if seed := r.Uint64(); i < 1000 {
			for bit := range 64 {
				if algebra.New(seed).Next() == algebra.New(seed^1<<bit).Next() {
					t.Fatalf("the seed %d and that with another bit %d begin with the same number", seed, bit)
				}
			}
		}
	}
}

// The chapter's examples of draws.
func TestDrawExamples(t *testing.T) {
	for _, seed := range seeds {
		d := algebra.New(seed)
		x, e := d.Below(1)
		wantOne(t, "Below(1)", x, e, 0, api.OK)
		l, e := d.Perm(1)
		want(t, "Perm(1)", l, e, []int{0}, api.OK)
		l, e = d.Perm(0)
		want(t, "Perm(0)", l, e, nil, api.OK)
		wantNext(t, "after Below(1), Perm(1) and Perm(0)", d, drawn(seed, 2)[1])
		l, e = d.Sample(3, 3)
		want(t, "Sample(3, 3)", l, e, []int{0, 1, 2}, api.OK)
		l, e = d.Sample(3, 4)
		want(t, "Sample(3, 4)", l, e, nil, api.ErrRange)
		x, e = d.Below(0)
		wantOne(t, "Below(0)", x, e, 0, api.ErrArg)
	}
}
