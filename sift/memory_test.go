package sift_test

import (
	"slices"
	"testing"

	"waveplate/api"
	"waveplate/sift"
)

// lists are all arguments or results of a call that are lists.
type lists struct {
	pulses []api.Pulse
	clicks []api.Click
	heard  []api.Heard
	notes  []api.Note
	slots  [][]int
	bits   [][]bool
	limbs  []api.Nat
}

// mapped returns lists of which each one is made of one of these.
func (l lists) mapped(f mapping) lists {
	m := lists{f.pulses(l.pulses), f.clicks(l.clicks), f.heard(l.heard), f.notes(l.notes), nil, nil, nil}
	for _, x := range l.slots {
		m.slots = append(m.slots, f.slots(x))
	}
	for _, x := range l.bits {
		m.bits = append(m.bits, f.bits(x))
	}
	for _, x := range l.limbs {
		m.limbs = append(m.limbs, f.limbs(x))
	}
	return m
}

// mapping makes lists of lists.
type mapping struct {
	pulses func(l []api.Pulse) []api.Pulse
	clicks func(l []api.Click) []api.Click
	heard  func(l []api.Heard) []api.Heard
	notes  func(l []api.Note) []api.Note
	slots  func(l []int) []int
	bits   func(l []bool) []bool
	limbs  func(l api.Nat) api.Nat
}

// spare returns a function that gives a list elements beyond its end.
func spare[L ~[]T, T any](filler T) func(l L) L {
	return func(l L) L {
		longer := append(slices.Clone(l), filler, filler, filler)
		return longer[:len(l)]
	}
}

// wreck returns a function that changes all elements of a list, up to its capacity.
func wreck[L ~[]T, T any](filler T) func(l L) L {
	return func(l L) L {
		l = l[:cap(l)]
		for i := range l {
			l[i] = filler
		}
		return l
	}
}

// whole returns a list with what is beyond its end.
func whole[L ~[]T, T any](l L) L { return l[:cap(l)] }

func (l lists) copy() lists {
	return l.mapped(mapping{slices.Clone[[]api.Pulse], slices.Clone[[]api.Click], slices.Clone[[]api.Heard], slices.Clone[[]api.Note], slices.Clone[[]int], slices.Clone[[]bool], slices.Clone[api.Nat]})
}

func (l lists) whole() lists {
	return l.mapped(mapping{whole[[]api.Pulse], whole[[]api.Click], whole[[]api.Heard], whole[[]api.Note], whole[[]int], whole[[]bool], whole[api.Nat]})
}

func (l lists) withSpare(n int, bit bool) lists {
	return l.mapped(mapping{spare[[]api.Pulse](api.Pulse{Basis: n, Seen: true}), spare[[]api.Click](api.Click{Basis: n, Kind: 1}), spare[[]api.Heard](api.Heard{Slot: n}), spare[[]api.Note](api.Note{How: n}), spare[[]int](n), spare[[]bool](bit), spare[api.Nat](uint32(n))})
}

func (l lists) wreck(bit bool) {
	l.mapped(mapping{wreck[[]api.Pulse](api.Pulse{Basis: 77}), wreck[[]api.Click](api.Click{Basis: 77}), wreck[[]api.Heard](api.Heard{Slot: 77}), wreck[[]api.Note](api.Note{Slot: 77}), wreck[[]int](77), wreck[[]bool](bit), wreck[api.Nat](uint32(77))})
}

func (l lists) same(m lists) bool {
	return slices.Equal(l.pulses, m.pulses) && slices.Equal(l.clicks, m.clicks) && slices.Equal(l.heard, m.heard) && slices.Equal(l.notes, m.notes) &&
		slices.EqualFunc(l.slots, m.slots, slices.Equal) && slices.EqualFunc(l.bits, m.bits, slices.Equal) && slices.EqualFunc(l.limbs, m.limbs, slices.Equal)
}

// numbers returns numbers and an error as a result.
func numbers(e api.Errno, l ...int) lists { return lists{slots: [][]int{append(l, int(e))}} }

func ofGains(g [3]api.Gain) []int {
	var l []int
	for _, x := range g {
		l = append(l, x.Sent, x.Heard, x.Wrong)
	}
	return l
}

func ofFrac(f api.Frac, e api.Errno) lists { return lists{limbs: []api.Nat{f.Num, f.Den}} }

// listCall is a call with lists as arguments or results.
type listCall struct {
	name string
	call func(a lists) lists
}

func listCalls() []listCall {
	o, g := theExample()
	eps := func(a lists) api.Frac { return api.Frac{Num: a.limbs[0], Den: a.limbs[1]} }
	return []listCall{
		{"Agreement", func(a lists) lists { n, e := sift.Agreement(a.pulses, a.clicks, 1); return numbers(e, n) }},
		{"Align", func(a lists) lists { n, e := sift.Align(a.pulses, a.clicks, 0); return numbers(e, n) }},
		{"Announce", func(a lists) lists { l, _ := sift.Announce(a.clicks, 2, 0, 99); return lists{heard: l} }},
		{"Text", func(a lists) lists { s, e := sift.Text(a.heard); return numbers(e, len(s)) }},
		{"Parse", func(a lists) lists { l, _ := sift.Parse("3 0\n4 1\n70 1\n"); return lists{heard: l} }},
		{"Match", func(a lists) lists { l, _ := sift.Match(a.pulses, a.heard, 1); return lists{slots: [][]int{l}} }},
		{"Class", func(a lists) lists { l, _ := sift.Class(a.pulses, a.slots[0], 1); return lists{slots: [][]int{l}} }},
		{"Sent", func(a lists) lists { l, _ := sift.Sent(a.pulses, a.slots[0]); return lists{bits: [][]bool{l}} }},
		{"Received", func(a lists) lists { l, _ := sift.Received(a.clicks, 0, a.slots[1]); return lists{bits: [][]bool{l}} }},
		{"Known", func(a lists) lists { n, e := sift.Known(a.pulses, a.notes, a.slots[0]); return numbers(e, n) }},
		{"Gains", func(a lists) lists {
			g, e := sift.Gains(a.pulses, a.slots[1], a.bits[1][:len(a.slots[1])], 1)
			return numbers(e, ofGains(g)...)
		}},
		{"Yield", func(a lists) lists { return ofFrac(sift.Yield(o, g)) }},
		{"Yield of 1", func(a lists) lists {
			return ofFrac(sift.Yield(o, [3]api.Gain{{Sent: 1}, {Sent: 1, Heard: 1}, {Sent: 1}}))
		}},
		{"Faults", func(a lists) lists { return ofFrac(sift.Faults(o, g)) }},
		{"Faults of 1", func(a lists) lists {
			return ofFrac(sift.Faults(o, [3]api.Gain{{Sent: 1}, {Sent: 1, Heard: 1, Wrong: 1}, {Sent: 1}}))
		}},
		{"Blocks", func(a lists) lists { l, _ := sift.Blocks(a.slots[0], 2); return lists{slots: l} }},
		{"Blocks of one", func(a lists) lists {
			l, _ := sift.Blocks(a.slots[0], len(a.slots[0]))
			return lists{slots: l}
		}},
		{"Sample", func(a lists) lists { l, m, _ := sift.Sample(20, 9, 1); return lists{slots: [][]int{l, m}} }},
		{"Sample of all", func(a lists) lists { l, m, _ := sift.Sample(20, 20, 1); return lists{slots: [][]int{l, m}} }},
		{"Rate", func(a lists) lists {
			x, e := sift.Rate(20, 9, 1, eps(a))
			return numbers(e, x.Total, x.Sample, x.Seen, x.Bad, x.Rest)
		}},
		{"Judge", func(a lists) lists { return numbers(sift.Judge(9, 1, eps(a))) }},
		{"Test", func(a lists) lists {
			x, c, d, e := sift.Test(a.bits[0], a.bits[1], 9, 1, eps(a), eps(a))
			m := numbers(e, x.Total, x.Sample, x.Seen, x.Bad, x.Rest)
			m.bits = [][]bool{c, d}
			return m
		}},
		{"Test without a sample", func(a lists) lists {
			_, c, d, _ := sift.Test(a.bits[0], a.bits[1], 0, 1, eps(a), eps(a))
			return lists{bits: [][]bool{c, d}}
		}},
	}
}

// R5 and R10: a call neither depends on what is beyond the ends of its arguments nor changes them; its results share memory with nothing.
func TestMemory(t *testing.T) {
	r := newRand()
	args := lists{pulses: randomPulses(r, 40), clicks: randomClicks(r, 40), notes: randomNotes(r, 30, 40), slots: [][]int{{1, 2, 5, 7, 8, 12, 30, 31}, nil}, bits: [][]bool{randomBits(r, 40), nil}, limbs: []api.Nat{{1, 0}, {3, 0, 0}}}
	for i := range args.pulses {
		args.pulses[i].Seen = true
		args.clicks[i].Kind = 1 + i%2
		if i%3 > 0 {
			args.heard = append(args.heard, api.Heard{Slot: i + 1, Basis: i % 2})
			args.slots[1] = append(args.slots[1], i)
		}
	}
	args.heard, args.bits[1] = args.heard[:20], slices.Clone(args.bits[0])
	args.bits[1][7] = !args.bits[1][7]
	for _, c := range listCalls() {
		right := c.call(args).copy()
		for _, n := range []int{0, 1, 77} {
			with := args.withSpare(n, n == 1)
			before := with.whole().copy()
			got := c.call(with)
			if !got.same(right) {
				t.Errorf("%s: %v, and with spare elements %v", c.name, right, got)
			}
			if !with.whole().same(before) {
				t.Errorf("%s changed an argument", c.name)
			}
			again := c.call(args)
			if !again.same(right) {
				t.Errorf("%s: %v, and again %v", c.name, right, again)
			}
			for _, bit := range []bool{true, false} {
				with.wreck(bit)
				if !got.same(right) {
					t.Errorf("%s: a result shares memory with an argument", c.name)
				}
				again.wreck(bit)
				if !got.same(right) || !c.call(args).same(right) {
					t.Errorf("%s: the results of two calls share memory", c.name)
				}
			}
		}
	}
}

// R5: the lists of one result share no memory.
func TestResultsShareNoMemory(t *testing.T) {
	l, e := sift.Blocks([]int{1, 2, 3, 4, 5, 6, 7}, 2)
	wreck[[]int](77)(l[0])
	wreck[[]int](78)(l[2])
	want(t, "the block between", l[1], e, []int{3, 4}, api.OK)
	_ = append(l[1], 79)
	want(t, "the block behind", l[2], e, []int{78, 78}, api.OK)

	sample, rest, e := sift.Sample(20, 9, 1)
	_, others, _ := modelSample(20, 9, 1)
	wreck[[]int](77)(sample)
	want(t, "the rest", rest, e, others, api.OK)

	b := slices.Repeat([]bool{true}, 9)
	_, c, d, e := sift.Test(b, b, 0, 1, frac(0, 1), frac(0, 1))
	wreck[[]bool](false)(c)
	want(t, "the bits of b", d, e, b, api.OK)

	one := api.Gain{Sent: 1, Heard: 1, Wrong: 1}
	o, _ := theExample()
	f, _ := sift.Faults(o, [3]api.Gain{{Sent: 1}, one, one})
	want(t, "Num of 1", f.Num, api.OK, []uint32{1}, api.OK)
	wreck[api.Nat](uint32(77))(f.Num)
	want(t, "Den of 1", f.Den, api.OK, []uint32{1}, api.OK)
}

// R5: one list as two arguments.
func TestTheSameArgumentTwice(t *testing.T) {
	b := bitsOf("1101")
	half := frac(1, 2)
	x, c, d, e := sift.Test(b, b, 2, 1, half, half)
	_, rest, _ := modelSample(4, 2, 1)
	wantOne(t, "Test", x, e, api.Estimate{Total: 4, Sample: 2}, api.OK)
	for i, at := range rest {
		if c[i] != b[at] || d[i] != b[at] {
			t.Errorf("the rest %v, %v", c, d)
		}
	}
	want(t, "the bits", b, api.OK, bitsOf("1101"), api.OK)
}

// R3: a nil list is an empty one.
func TestNilIsEmpty(t *testing.T) {
	p, c := make([]api.Pulse, 3), make([]api.Click, 3)
	for _, slots := range [][]int{nil, {}} {
		l, e := sift.Class(p, slots, 0)
		want(t, "Class", l, e, nil, api.OK)
		b, e := sift.Sent(p, slots)
		want(t, "Sent", b, e, nil, api.OK)
		b, e = sift.Received(c, 0, slots)
		want(t, "Received", b, e, nil, api.OK)
		n, e := sift.Known(p, nil, slots)
		wantOne(t, "Known", n, e, 0, api.OK)
		wantBlocks(t, slots, 1, nil, api.OK)
		for _, bits := range [][]bool{nil, {}} {
			g, e := sift.Gains(nil, slots, bits, 0)
			wantOne(t, "Gains", g, e, [3]api.Gain{}, api.OK)
			x, d, f, e := sift.Test(bits, nil, 0, 1, frac(0, 1), frac(0, 1))
			wantOne(t, "Test", x, e, api.Estimate{}, api.OK)
			want(t, "the rest of a", d, e, nil, api.OK)
			want(t, "the rest of b", f, e, nil, api.OK)
		}
	}
	for _, l := range [][]api.Heard{nil, {}} {
		s, e := sift.Text(l)
		wantOne(t, "Text", s, e, "", api.OK)
		kept, e := sift.Match(nil, l, 0)
		want(t, "Match", kept, e, nil, api.OK)
	}
	l, e := sift.Parse("")
	want(t, "Parse", l, e, nil, api.OK)
	l, e = sift.Announce(nil, 0, 0, 0)
	want(t, "Announce", l, e, nil, api.OK)
}
