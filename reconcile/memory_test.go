package reconcile_test

import (
	"slices"
	"testing"

	"waveplate/api"
	"waveplate/reconcile"
)

// lists are all arguments or results of a call that are lists.
type lists struct {
	bits      [][]bool
	ints      [][]int
	questions []api.Question
	answers   []api.Answer
}

// mapped returns lists of which each one is made of one of these.
func (l lists) mapped(bits func(l []bool) []bool, ints func(l []int) []int, questions func(l []api.Question) []api.Question, answers func(l []api.Answer) []api.Answer) lists {
	m := lists{questions: questions(l.questions), answers: answers(l.answers)}
	for _, x := range l.bits {
		m.bits = append(m.bits, bits(x))
	}
	for _, x := range l.ints {
		m.ints = append(m.ints, ints(x))
	}
	return m
}

// spare returns a function that gives a list elements beyond its end.
func spare[T any](filler T) func(l []T) []T {
	return func(l []T) []T {
		longer := append(slices.Clone(l), filler, filler, filler)
		return longer[:len(l)]
	}
}

// wreck returns a function that changes all elements of a list, up to its capacity.
func wreck[T any](filler T) func(l []T) []T {
	return func(l []T) []T {
		l = l[:cap(l)]
		for i := range l {
			l[i] = filler
		}
		return l
	}
}

// whole returns a list with what is beyond its end.
func whole[T any](l []T) []T { return l[:cap(l)] }

func (l lists) copy() lists {
	return l.mapped(slices.Clone[[]bool], slices.Clone[[]int], slices.Clone[[]api.Question], slices.Clone[[]api.Answer])
}

func (l lists) whole() lists {
	return l.mapped(whole[bool], whole[int], whole[api.Question], whole[api.Answer])
}

func (l lists) withSpare(bit bool) lists {
	return l.mapped(spare(bit), spare(77), spare(api.Question{Pass: 77}), spare(api.Answer{Parity: bit}))
}

func (l lists) wreck(bit bool) {
	l.mapped(wreck(bit), wreck(77), wreck(api.Question{Pass: 77}), wreck(api.Answer{Q: api.Question{Pass: 77}, Parity: bit}))
}

func (l lists) same(m lists) bool {
	return slices.EqualFunc(l.bits, m.bits, slices.Equal) && slices.EqualFunc(l.ints, m.ints, slices.Equal) &&
		slices.Equal(l.questions, m.questions) && slices.Equal(l.answers, m.answers)
}

// numbers returns numbers as a result.
func numbers(l ...int) lists { return lists{ints: [][]int{l}} }

// listCall is a call with lists as arguments or results.
type listCall struct {
	name string
	call func(a lists) lists
}

func planCalls() []listCall {
	c := api.Cascade{Passes: 3, Block: 3, Seed: 6}
	return []listCall{
		{"Order", func(a lists) lists { l, _ := reconcile.Order(c, 20, 0); return lists{ints: [][]int{l}} }},
		{"Order of pass 1", func(a lists) lists { l, _ := reconcile.Order(c, 20, 1); return lists{ints: [][]int{l}} }},
		{"Blocks", func(a lists) lists { l, _ := reconcile.Blocks(c, 20, 1); return lists{questions: l} }},
		{"Places", func(a lists) lists {
			l, _ := reconcile.Places(c, 20, api.Question{Pass: 1, From: 3, To: 9})
			return lists{ints: [][]int{l}}
		}},
		{"Reply", func(a lists) lists {
			p, _ := reconcile.Reply(c, a.bits[0], api.Question{Pass: 1, From: 3, To: 9})
			return lists{bits: [][]bool{{p}}}
		}},
		{"Run", func(a lists) lists {
			b, told, _ := reconcile.Run(c, a.bits[0], a.bits[1])
			return lists{bits: [][]bool{b}, answers: told}
		}},
		{"Rank", func(a lists) lists { n, e := reconcile.Rank(c, 20, a.questions); return numbers(n, int(e)) }},
		{"a machine", func(a lists) lists {
			m, _ := reconcile.New(c, a.bits[0])
			for i := 0; i < 12 && !isOver(m); i++ {
				m.Tell(i%3 == 0)
			}
			return lists{bits: [][]bool{m.Bits(), m.Copy().Bits()}, answers: m.Known()}
		}},
	}
}

func codeCalls() []listCall {
	c := api.Code{Bits: 20, Checks: 20, Degree: 3, Seed: 7}
	return []listCall{
		{"Matrix", func(a lists) lists { l, _ := reconcile.Matrix(c); return lists{ints: l} }},
		{"Syndrome", func(a lists) lists { s, _ := reconcile.Syndrome(c, a.bits[0]); return lists{bits: [][]bool{s}} }},
		{"Decode", func(a lists) lists {
			b, _, _ := reconcile.Decode(c, a.bits[0], a.bits[2], 9)
			return lists{bits: [][]bool{b}}
		}},
		{"Decode without a round", func(a lists) lists {
			b, _, _ := reconcile.Decode(c, a.bits[1], a.bits[2], 0)
			return lists{bits: [][]bool{b}}
		}},
		{"Nearest", func(a lists) lists {
			b, _, _ := reconcile.Nearest(c, a.bits[0], a.bits[2], 3)
			return lists{bits: [][]bool{b}}
		}},
		{"Nearest at no distance", func(a lists) lists {
			b, _, _ := reconcile.Nearest(c, a.bits[1], a.bits[2], 0)
			return lists{bits: [][]bool{b}}
		}},
	}
}

// R5 and R10: a call neither depends on what is beyond the ends of its arguments nor changes them; its results share memory with nothing.
func TestMemory(t *testing.T) {
	r := newRand()
	truth := randomBits(r, 20)
	syndrome, _ := reconcile.Syndrome(api.Code{Bits: 20, Checks: 20, Degree: 3, Seed: 7}, truth)
	args := lists{bits: [][]bool{flip(truth, 13), truth, syndrome}, questions: randomQuestions(r, api.Cascade{Passes: 3}, 20, 9)}
	for _, c := range slices.Concat(planCalls(), codeCalls()) {
		right := c.call(args).copy()
		for _, bit := range []bool{false, true} {
			with := args.withSpare(bit)
			before := with.whole().copy()
			got := c.call(with)
			if !got.same(right) {
				t.Errorf("%s: %v, and with spare elements %v", c.name, right, got)
			}
			if !with.whole().same(before) {
				t.Errorf("%s changed an argument", c.name)
			}
			again := c.call(args)
			for _, other := range []bool{true, false} {
				with.wreck(other)
				if !got.same(right) {
					t.Errorf("%s: a result shares memory with an argument", c.name)
				}
				again.wreck(other)
				if !got.same(right) || !c.call(args).same(right) {
					t.Errorf("%s: the results of two calls share memory", c.name)
				}
			}
		}
	}
}

// R5: the lists of one result share no memory.
func TestChecksShareNoMemory(t *testing.T) {
	c := api.Code{Bits: 40, Checks: 9, Degree: 4, Seed: 3}
	right, _ := modelMatrix(c)
	for i := range right {
		l, _ := reconcile.Matrix(c)
		wreck(77)(l[i])
		for j := range l {
			if j != i {
				want(t, "another check", l[j], api.OK, right[j], api.OK)
			}
		}
	}
}

// R5: a machine shares memory neither with the string that it got nor with what it returned.
func TestMemoryOfMachines(t *testing.T) {
	b := bitsOf("0110100101")
	c := api.Cascade{Passes: 2, Block: 4, Seed: 9}
	reply := by(c, bitsOf("0010100111"))
	x := modelCourse(c, b, reply)
	m := newMachine(t, c, b)
	wreck(true)(b)
	for i, now := range x.moments {
		checkMachine(t, "a machine", m, now.question, now.bits, x.told[:i], now.flips, false)
		k := m.Copy()
		bits, told := m.Bits(), m.Known()
		wreck(true)(m.Bits())
		wreck(false)(k.Bits())
		wreck(api.Answer{Q: api.Question{Pass: 77}})(m.Known())
		wreck(api.Answer{Q: api.Question{Pass: 78}})(k.Known())
		tell(t, m, x.told[i].Parity)
		want(t, "the string before", bits, api.OK, now.bits, api.OK)
		want(t, "what was known before", told, api.OK, x.told[:i], api.OK)
	}
	checkMachine(t, "in the end", m, api.Question{}, x.bits, x.told, x.flips, x.failed)
}

// R5: one list as two arguments.
func TestTheSameArgumentTwice(t *testing.T) {
	b := bitsOf("11010")
	x, told, e := reconcile.Run(api.Cascade{Passes: 1, Block: 8}, b, b)
	want(t, "Run", x, e, b, api.OK)
	want(t, "what Run was told", told, e, []api.Answer{{Q: api.Question{To: 5}, Parity: true}}, api.OK)
	c := api.Code{Bits: 5, Checks: 5, Degree: 2, Seed: 4}
	checkDecode(t, c, b, b, 5)
	checkNearest(t, c, b, b, 3)
	want(t, "the bits", b, api.OK, bitsOf("11010"), api.OK)
}

// R3: a nil list is an empty one.
func TestNilIsEmpty(t *testing.T) {
	c := api.Cascade{Passes: 2, Block: 3}
	for _, b := range [][]bool{nil, {}} {
		x, told, e := reconcile.Run(c, b, nil)
		want(t, "Run", x, e, nil, api.OK)
		want(t, "what Run was told", told, e, nil, api.OK)
		x, told, e = reconcile.Run(c, nil, b)
		want(t, "Run", x, e, nil, api.OK)
		want(t, "what Run was told", told, e, nil, api.OK)
		checkMachine(t, "New", newMachine(t, c, b), api.Question{}, nil, nil, 0, false)
		p, e := reconcile.Reply(c, b, api.Question{})
		wantOne(t, "Reply", p, e, false, api.ErrRange)
		code := api.Code{Bits: 1, Checks: 1, Degree: 1}
		x, e = reconcile.Syndrome(code, b)
		want(t, "Syndrome", x, e, nil, api.ErrEqual)
		x, _, e = reconcile.Decode(code, b, b, 1)
		want(t, "Decode", x, e, nil, api.ErrEqual)
		x, _, e = reconcile.Nearest(code, b, b, 1)
		want(t, "Nearest", x, e, nil, api.ErrEqual)
	}
	for _, l := range [][]api.Question{nil, {}} {
		for _, n := range []int{0, 7} {
			rank, e := reconcile.Rank(c, n, l)
			wantOne(t, "Rank", rank, e, 0, api.OK)
		}
	}
}
