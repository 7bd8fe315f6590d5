package distil_test

import (
	"slices"
	"testing"

	"waveplate/api"
	"waveplate/distil"
)

// lists are all arguments or results of a call that are lists.
type lists struct {
	bits  [][]bool
	ints  []int
	items []api.Item
}

// mapped returns lists of which each one is made of one of these.
func (l lists) mapped(bits func(l []bool) []bool, ints func(l []int) []int, items func(l []api.Item) []api.Item) lists {
	m := lists{ints: ints(l.ints), items: items(l.items)}
	for _, x := range l.bits {
		m.bits = append(m.bits, bits(x))
	}
	return m
}

// spare returns a function that gives a list elements beyond its end.
func spare[T any](filler T) func(l []T) []T {
	return func(l []T) []T {
		longer := append(slices.Clone(l), filler, filler, filler)
		return longer[:len(l)]
	}
}

// wreck returns a function that changes all elements of a list, up to its capacity.
func wreck[T any](filler T) func(l []T) []T {
	return func(l []T) []T {
		l = l[:cap(l)]
		for i := range l {
			l[i] = filler
		}
		return l
	}
}

// whole returns a list with what is beyond its end.
func whole[T any](l []T) []T { return l[:cap(l)] }

func (l lists) copy() lists {
	return l.mapped(slices.Clone[[]bool], slices.Clone[[]int], slices.Clone[[]api.Item])
}

func (l lists) whole() lists { return l.mapped(whole[bool], whole[int], whole[api.Item]) }

func (l lists) withSpare(bit bool) lists {
	return l.mapped(spare(bit), spare(77), spare(item(1, 77)))
}

func (l lists) wreck(bit bool) { l.mapped(wreck(bit), wreck(77), wreck(item(2, 78))) }

func (l lists) same(m lists) bool {
	return slices.EqualFunc(l.bits, m.bits, slices.Equal) && slices.Equal(l.ints, m.ints) && slices.Equal(l.items, m.items)
}

// numbers returns numbers as a result.
func numbers(l ...int) lists { return lists{ints: l} }

func oneBits(b []bool, e api.Errno) lists { return lists{bits: [][]bool{b}, ints: []int{int(e)}} }

func oneItems(l []api.Item, e api.Errno) lists { return lists{items: l, ints: []int{int(e)}} }

func oneNumber(n int, e api.Errno) lists { return numbers(n, int(e)) }

func oneWord(n uint64, e api.Errno) lists { return numbers(int(n), int(e)) }

// listCall is a call with lists as arguments or results.
type listCall struct {
	name string
	call func(a lists) lists
}

func ledgerCalls() []listCall {
	return []listCall{
		{"Check", func(a lists) lists { return numbers(int(distil.Check(a.items))) }},
		{"Enter of another kind", func(a lists) lists { return oneItems(distil.Enter(a.items, 4, 7)) }},
		{"Enter of the last kind", func(a lists) lists { return oneItems(distil.Enter(a.items, 3, 7)) }},
		{"Enter of no bits", func(a lists) lists { return oneItems(distil.Enter(a.items, 3, 0)) }},
		{"Enter into the first item", func(a lists) lists { return oneItems(distil.Enter(a.items[:1], 1, 7)) }},
		{"Enter into no items", func(a lists) lists { return oneItems(distil.Enter(a.items[:0], 1, 7)) }},
		{"Total", func(a lists) lists { return oneNumber(distil.Total(a.items)) }},
		{"Of", func(a lists) lists { return oneNumber(distil.Of(a.items, 1)) }},
		{"Text and Parse", func(a lists) lists {
			s, _ := distil.Text(a.items)
			return oneItems(distil.Parse(s))
		}},
		{"Length", func(a lists) lists { return oneNumber(distil.Length(40, 1, a.items, 2)) }},
	}
}

func blockCalls() []listCall {
	return []listCall{
		{"Digest", func(a lists) lists { return oneWord(distil.Digest(16, 77, a.bits[0])) }},
		{"Confirm", func(a lists) lists { return numbers(int(distil.Confirm(16, 77, a.bits[0], 5))) }},
		{"Collisions", func(a lists) lists { return oneNumber(distil.Collisions(8, a.bits[0], a.bits[1])) }},
		{"Seed", func(a lists) lists { return oneBits(distil.Seed(12, 7, 3)) }},
		{"Amplify", func(a lists) lists { return oneBits(distil.Amplify(a.bits[0], 7, 3)) }},
		{"Amplify to all bits", func(a lists) lists { return oneBits(distil.Amplify(a.bits[0][:1], 20, 3)) }},
		{"Distil", func(a lists) lists { return oneBits(distil.Distil(a.bits[0], 40, 1, a.items, 2, 3)) }},
		{"Tag", func(a lists) lists { return oneWord(distil.Tag(32, 77, 99, a.bits[0])) }},
		{"Forgeries", func(a lists) lists { return oneNumber(distil.Forgeries(8, a.bits[0], 5, a.bits[1], 6)) }},
		{"a pool", func(a lists) lists {
			p, _ := distil.NewPool(8, a.bits[0])
			tag, _ := p.Seal(1, a.bits[1])
			e := p.Open(0, a.bits[1], 3)
			p.Refill(a.bits[1][:2]) // fits beyond the end of the first ones
			p.Refill(a.bits[1])
			other, _ := p.Copy().Seal(2, a.bits[0])
			return lists{ints: append(p.Used(), int(tag), int(e), int(other), p.Room())}
		}},
		{"Used", func(a lists) lists {
			p, _ := distil.NewPool(8, a.bits[0])
			p.Seal(1, nil)
			p.Seal(0, nil)
			return lists{ints: p.Used()}
		}},
	}
}

// R5 and R10: a call neither depends on what is beyond the ends of its arguments nor changes them; its results share memory with nothing.
func TestMemory(t *testing.T) {
	r := newRand()
	args := lists{bits: [][]bool{randomBits(r, 45), randomBits(r, 21)}, items: []api.Item{item(1, 4), item(2, 5), item(1, 6), item(3, 7)}}
	for _, c := range slices.Concat(ledgerCalls(), blockCalls()) {
		right := c.call(args).copy()
		for _, bit := range []bool{false, true} {
			with := args.withSpare(bit)
			before := with.whole().copy()
			got := c.call(with)
			if !got.same(right) {
				t.Errorf("%s: %v, and with spare elements %v", c.name, right, got)
			}
			if !with.whole().same(before) {
				t.Errorf("%s changed an argument", c.name)
			}
			again := c.call(args)
			for _, other := range []bool{true, false} {
				with.wreck(other)
				if !got.same(right) {
					t.Errorf("%s: a result shares memory with an argument", c.name)
				}
				again.wreck(other)
				if !got.same(right) || !c.call(args).same(right) {
					t.Errorf("%s: the results of two calls share memory", c.name)
				}
			}
		}
	}
}

// R5: a pool shares memory neither with the bits that it got nor with what it returned.
func TestMemoryOfPools(t *testing.T) {
	r := newRand()
	for range 20 {
		first, more, last := spare(true)(randomBits(r, 70)), spare(true)(randomBits(r, 30)), randomBits(r, 30)
		right := newPool(t, 8, slices.Concat(first, more, last))
		p := newPool(t, 8, first)
		wreck(true)(first)
		wantError(t, "Refill", p.Refill(more), api.OK)
		wreck(false)(more)
		k := p.Copy()
		// Both append to the same bits, each its own.
		wantError(t, "Refill of the copy", k.Refill(make([]bool, 30)), api.OK)
		wantError(t, "Refill", p.Refill(last), api.OK)
		wantError(t, "Refill of the copy", k.Refill(make([]bool, 30)), api.OK)
		for number := range right.Room() {
			tag, e := p.Seal(number, nil)
			wantOne(t, "Seal", tag, e, seal(t, right, number, nil), api.OK)
			used := p.Used()
			wreck(99)(p.Used())
			want(t, "Used", p.Used(), api.OK, used, api.OK)
		}
	}
}

// R5: one list as two arguments.
func TestTheSameArgumentTwice(t *testing.T) {
	b := bitsOf("1101000110101101")
	n, e := distil.Collisions(8, b, b)
	wantOne(t, "Collisions", n, e, 256, api.OK)
	n, e = distil.Forgeries(8, b, 3, b, 3)
	wantOne(t, "Forgeries", n, e, 256, api.OK)
	p := newPair(t, 8, b)
	p.refill(t, b)
	tag, _ := p.copy().seal(t, 1, b)
	p.open(t, 1, b, tag)
	want(t, "the bits", b, api.OK, bitsOf("1101000110101101"), api.OK)
}

// R3: a nil list is an empty one.
func TestNilIsEmpty(t *testing.T) {
	for _, l := range [][]api.Item{nil, {}} {
		checkLedger(t, l)
		checkEnter(t, l, 3, 5)
		checkLength(t, 9, 1, l, 2)
		checkDistil(t, bitsOf("10110"), 5, 0, l, 1, 4)
	}
	for _, b := range [][]bool{nil, {}} {
		checkDigest(t, 8, 2, b)
		checkConfirm(t, 8, 2, b, 31)
		checkCollisions(t, 8, b, nil, 256, api.OK)
		checkForgeries(t, 8, b, 4, nil, 4)
		checkForgeries(t, 8, nil, 4, b, 5)
		checkAmplify(t, b, 0, 1)
		checkAmplify(t, b, 3, 1)
		checkDistil(t, b, 0, 0, nil, 0, 1)
		checkTag(t, 8, 2, 5, b)
		p := newPair(t, 8, b)
		p.check(t, "a pool without bits")
		p.refill(t, b)
		p.check(t, "a pool without more bits")
		p.refill(t, make([]bool, 16))
		p.seal(t, 0, b)
	}
}
