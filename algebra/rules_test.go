package algebra_test

import (
	"slices"
	"testing"

	"waveplate/algebra"
	"waveplate/api"
)

// args are the arguments and results of a call that are lists.
type args struct {
	bits  [][]bool
	bytes [][]byte
	ints  [][]int
}

func copyLists[T any](l [][]T) [][]T {
	c := make([][]T, len(l))
	for i := range l {
		c[i] = slices.Clone(l[i])
	}
	return c
}

func sameLists[T comparable](a, b [][]T) bool { return slices.EqualFunc(a, b, slices.Equal[[]T]) }

func (a args) copy() args {
	return args{copyLists(a.bits), copyLists(a.bytes), copyLists(a.ints)}
}

func (a args) same(b args) bool {
	return sameLists(a.bits, b.bits) && sameLists(a.bytes, b.bytes) && sameLists(a.ints, b.ints)
}

// withSpare returns copies with elements beyond the ends.
func (a args) withSpare() args {
	var s args
	for _, l := range a.bits {
		s.bits = append(s.bits, spare(l, true))
	}
	for _, l := range a.bytes {
		s.bytes = append(s.bytes, spare(l, 255))
	}
	for _, l := range a.ints {
		s.ints = append(s.ints, spare(l, 0))
	}
	return s
}

// whole returns the lists with what is beyond their ends.
func (a args) whole() args {
	var w args
	for _, l := range a.bits {
		w.bits = append(w.bits, l[:cap(l)])
	}
	for _, l := range a.bytes {
		w.bytes = append(w.bytes, l[:cap(l)])
	}
	for _, l := range a.ints {
		w.ints = append(w.ints, l[:cap(l)])
	}
	return w
}

// wreck changes all elements of the lists, up to their capacities.
func (a args) wreck() {
	w := a.whole()
	for _, l := range w.bits {
		for i := range l {
			l[i] = !l[i]
		}
	}
	for _, l := range w.bytes {
		for i := range l {
			l[i] ^= 0x5a
		}
	}
	for _, l := range w.ints {
		for i := range l {
			l[i] ^= 0x5a
		}
	}
}

func oneBits(b []bool, e api.Errno) args { return args{bits: [][]bool{b}} }

func oneBytes(p []byte, e api.Errno) args { return args{bytes: [][]byte{p}} }

func oneInts(l []int, e api.Errno) args { return args{ints: [][]int{l}} }

// values returns numbers as a result.
func values(l ...int) args { return args{ints: [][]int{l}} }

func sharesAsArgs(l []api.Share) args {
	var a args
	for _, s := range l {
		a.bytes = append(a.bytes, []byte{s.X}, s.Y)
	}
	return a
}

func asShares(l [][]byte) []api.Share {
	var shares []api.Share
	for i, y := range l {
		shares = append(shares, api.Share{X: byte(i + 1), Y: y})
	}
	return shares
}

// listCall is a call with lists as arguments, and these lists.
type listCall struct {
	name string
	call func(a args) args
	with args
}

// bitCalls are those with bit strings.
func bitCalls() []listCall {
	b := bits("1101000111010")
	one := args{bits: [][]bool{b}}
	two := args{bits: [][]bool{b, bits("0111011110000")}}
	at := args{bits: [][]bool{b}, ints: [][]int{{3, 0, 12, 3}}}
	return []listCall{
		{"Parity", func(a args) args { return oneBits([]bool{algebra.Parity(a.bits[0])}, 0) }, one},
		{"Count", func(a args) args { return values(algebra.Count(a.bits[0])) }, one},
		{"Distance", func(a args) args { d, e := algebra.Distance(a.bits[0], a.bits[1]); return values(d, int(e)) }, two},
		{"Xor", func(a args) args { return oneBits(algebra.Xor(a.bits[0], a.bits[1])) }, two},
		{"Pick", func(a args) args { return oneBits(algebra.Pick(a.bits[0], a.ints[0])) }, at},
		{"Drop", func(a args) args { return oneBits(algebra.Drop(a.bits[0], a.ints[0])) }, at},
		{"Drop of none", func(a args) args { return oneBits(algebra.Drop(a.bits[0], nil)) }, one},
		{"Text", func(a args) args { return oneBytes([]byte(algebra.Text(a.bits[0])), 0) }, one},
		{"Word", func(a args) args { n, e := algebra.Word(a.bits[0]); return values(int(n), int(e)) }, one},
		{"Pack", func(a args) args { return oneBytes(algebra.Pack(a.bits[0]), 0) }, one},
		{"Hash", func(a args) args { h, e := algebra.Hash(8, 77, a.bits[0]); return values(int(h), int(e)) }, one},
		{"Toeplitz", func(a args) args { return oneBits(algebra.Toeplitz(a.bits[0], a.bits[1], 4)) }, args{bits: [][]bool{b, bits("1011001101")}}},
		{"Toeplitz of one bit", func(a args) args { return oneBits(algebra.Toeplitz(a.bits[0], a.bits[1], 13)) }, args{bits: [][]bool{b, bits("1")}}},
	}
}

// byteCalls are those with byte strings.
func byteCalls() []listCall {
	three := args{bytes: [][]byte{{1, 2, 3}, {4, 5, 6}, {7, 8, 9}}}
	return []listCall{
		{"Unpack", func(a args) args { return oneBits(algebra.Unpack(a.bytes[0], 12)) }, args{bytes: [][]byte{{208, 192}}}},
		{"Split", func(a args) args {
			l, _ := algebra.Split(a.bytes[0], 4, 3, a.bytes[1])
			return sharesAsArgs(l)
		}, args{bytes: [][]byte{{1, 2}, {3, 4, 5, 6}}}},
		{"Split, k = 1", func(a args) args {
			l, _ := algebra.Split(a.bytes[0], 4, 1, nil)
			return sharesAsArgs(l)
		}, args{bytes: [][]byte{{1, 2}}}},
		{"Join", func(a args) args { return oneBytes(algebra.Join(asShares(a.bytes), 3)) }, three},
		{"Join, k = 1", func(a args) args { return oneBytes(algebra.Join(asShares(a.bytes), 1)) }, args{bytes: [][]byte{{1, 2, 3}}}},
		{"Explain", func(a args) args { return oneBytes(algebra.Explain(asShares(a.bytes[1:]), 4, a.bytes[0])) }, three},
	}
}

// otherCalls are those without lists as arguments.
func otherCalls() []listCall {
	return []listCall{
		{"Bits", func(a args) args { return oneBits(algebra.New(1).Bits(20)) }, args{}},
		{"Perm", func(a args) args { return oneInts(algebra.New(1).Perm(20)) }, args{}},
		{"Sample", func(a args) args { return oneInts(algebra.New(1).Sample(20, 9)) }, args{}},
		{"Parse", func(a args) args { return oneBits(algebra.Parse("1101")) }, args{}},
		{"Number", func(a args) args { return oneBits(algebra.Number(13, 7)) }, args{}},
	}
}

// R5 and R10: a call neither depends on what is beyond the ends of its arguments nor changes them; its results share memory with nothing.
func TestMemory(t *testing.T) {
	for _, c := range slices.Concat(bitCalls(), byteCalls(), otherCalls()) {
		right := c.call(c.with).copy()
		with := c.with.withSpare()
		before := with.whole().copy()
		got := c.call(with)
		if !got.same(right) {
			t.Errorf("%s: %v, and with spare elements %v", c.name, right, got)
		}
		if !with.whole().same(before) {
			t.Errorf("%s changed an argument: %v to %v", c.name, before, with.whole())
		}
		with.wreck()
		if !got.same(right) {
			t.Errorf("%s: a result shares memory with an argument", c.name)
		}
		if again := c.call(c.with); !again.same(right) {
			t.Errorf("%s: %v, and again %v", c.name, right, again)
		} else {
			again.wreck()
		}
		if !got.same(right) || !c.call(c.with).same(right) {
			t.Errorf("%s: the results of two calls share memory", c.name)
		}
	}
}

// R5: the shares of one result share no memory.
func TestSharesShareNoMemory(t *testing.T) {
	for k := 1; k <= 3; k++ {
		l := split(t, []byte{1, 2}, 3, k, make([]byte, 2*(k-1)))
		for i := range l {
			before := copyShares(l)
			before[i].Y = l[i].Y
			sharesAsArgs(l[i : i+1]).wreck()
			if !sameShares(l, before) {
				t.Errorf("k = %d: the share at %d shares memory with another one", k, i+1)
			}
		}
	}
}

// R5: one list as both arguments.
func TestTheSameArgumentTwice(t *testing.T) {
	b := bits("110")
	d, e := algebra.Distance(b, b)
	wantOne(t, "Distance", d, e, 0, api.OK)
	x, e := algebra.Xor(b, b)
	want(t, "Xor", x, e, bits("000"), api.OK)
	x, e = algebra.Toeplitz(b, b, 1)
	want(t, "Toeplitz", x, e, bits("1"), api.OK)
	p := []byte{9, 9}
	l := split(t, p, 2, 2, p)
	wantShares(t, "Split", l, api.OK, sharesOf([]byte{9, 9}, 2, 2, []byte{9, 9}), api.OK)
	want(t, "the bits", b, api.OK, bits("110"), api.OK)
	want(t, "the bytes", p, api.OK, []byte{9, 9}, api.OK)
}

// R3: a nil list is an empty one.
func TestNilIsEmpty(t *testing.T) {
	for _, b := range [][]bool{nil, {}} {
		d, e := algebra.Distance(b, nil)
		wantOne(t, "Distance", d, e, 0, api.OK)
		x, e := algebra.Xor(nil, b)
		want(t, "Xor", x, e, nil, api.OK)
		n, e := algebra.Word(b)
		wantOne(t, "Word", n, e, 0, api.OK)
		h, e := algebra.Hash(8, 2, b)
		wantOne(t, "Hash", h, e, 31, api.OK)
		x, e = algebra.Toeplitz(b, b, 0)
		want(t, "Toeplitz of 0 bits to 0", x, e, nil, api.OK)
		x, e = algebra.Toeplitz(b, b, 1)
		want(t, "Toeplitz of 0 bits to 1", x, e, bits("0"), api.OK)
		x, e = algebra.Toeplitz(b, bits("1"), 0)
		want(t, "Toeplitz of 1 bit to 0", x, e, nil, api.OK)
		if algebra.Parity(b) || algebra.Count(b) != 0 || algebra.Text(b) != "" {
			t.Error("Parity, Count or Text of no bits")
		}
		want(t, "Pack", algebra.Pack(b), api.OK, nil, api.OK)
	}
	for _, p := range [][]byte{nil, {}} {
		b, e := algebra.Unpack(p, 0)
		want(t, "Unpack", b, e, nil, api.OK)
		l, e := algebra.Split(p, 2, 2, p)
		wantShares(t, "Split", l, e, []api.Share{{X: 1}, {X: 2}}, api.OK)
		s, e := algebra.Join([]api.Share{{X: 1, Y: p}, {X: 2, Y: nil}, {X: 3, Y: []byte{}}}, 2)
		want(t, "Join", s, e, nil, api.OK)
		s, e = algebra.Explain([]api.Share{{X: 1, Y: p}}, 2, nil)
		want(t, "Explain", s, e, nil, api.OK)
		s, e = algebra.Explain(nil, 2, p)
		want(t, "Explain", s, e, nil, api.OK)
	}
	for _, at := range [][]int{nil, {}} {
		b, e := algebra.Pick(nil, at)
		want(t, "Pick", b, e, nil, api.OK)
		b, e = algebra.Drop([]bool{}, at)
		want(t, "Drop", b, e, nil, api.OK)
	}
	for _, l := range [][]api.Share{nil, {}} {
		s, e := algebra.Join(l, 1)
		want(t, "Join", s, e, nil, api.ErrShort)
	}
	b, e := algebra.Parse("")
	want(t, "Parse", b, e, nil, api.OK)
	b, e = algebra.Number(0, 0)
	want(t, "Number", b, e, nil, api.OK)
	b, e = algebra.Number(1, 0)
	want(t, "Number", b, e, nil, api.ErrOver)
}
