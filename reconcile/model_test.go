package reconcile_test

import (
	"cmp"
	"math/big"
	"slices"

	"waveplate/algebra"
	"waveplate/api"
)

// This file writes the chapter a second time, without the package.

// firstOf returns the first error.
func firstOf(l ...api.Errno) api.Errno {
	for _, e := range l {
		if e != api.OK {
			return e
		}
	}
	return api.OK
}

// unless returns an error if something does not hold.
func unless(holds bool, e api.Errno) api.Errno {
	if holds {
		return api.OK
	}
	return e
}

// in reports whether n is from a to b.
func in(n, a, b int) bool { return a <= n && n <= b }

func modelCheck(c api.Cascade) api.Errno {
	return unless(in(c.Passes, 1, 6) && in(c.Block, 1, 512), api.ErrArg)
}

func modelOrder(c api.Cascade, n, pass int) ([]int, api.Errno) {
	if e := firstOf(modelCheck(c), unless(n <= 512, api.ErrLong), unless(n >= 0 && in(pass, 0, c.Passes-1), api.ErrRange)); e != api.OK {
		return nil, e
	}
	l := make([]int, n)
	for i := range l {
		l[i] = i
	}
	if d := algebra.New(c.Seed + uint64(pass)); pass > 0 {
		for i := n - 1; i > 0; i-- {
			j := int(d.Next() % uint64(i+1))
			l[i], l[j] = l[j], l[i]
		}
	}
	return l, api.OK
}

func modelBlocks(c api.Cascade, n, pass int) ([]api.Question, api.Errno) {
	if _, e := modelOrder(c, n, pass); e != api.OK {
		return nil, e
	}
	size := c.Block
	for range pass {
		size *= 2
	}
	if size > 512 {
		size = 512
	}
	var l []api.Question
	for at := range n {
		if at%size == 0 {
			l = append(l, api.Question{Pass: pass, From: at})
		}
		l[len(l)-1].To = at + 1
	}
	return l, api.OK
}

func isQuestion(c api.Cascade, n int, q api.Question) bool {
	return in(q.Pass, 0, c.Passes-1) && in(q.From, 0, n-1) && in(q.To, 1, n) && q.From < q.To
}

func modelPlaces(c api.Cascade, n int, q api.Question) ([]int, api.Errno) {
	if e := firstOf(modelCheck(c), unless(n <= 512, api.ErrLong), unless(isQuestion(c, n, q), api.ErrRange)); e != api.OK {
		return nil, e
	}
	order, _ := modelOrder(c, n, q.Pass)
	return order[q.From:q.To], api.OK
}

// parityAt returns whether an odd number of these bits are true.
func parityAt(b []bool, at []int) bool {
	n := 0
	for _, i := range at {
		if b[i] {
			n++
		}
	}
	return n%2 == 1
}

func modelReply(c api.Cascade, b []bool, q api.Question) (bool, api.Errno) {
	at, e := modelPlaces(c, len(b), q)
	return parityAt(b, at), e
}

// moment is a question of a course, and the string when it is asked.
type moment struct {
	question api.Question
	bits     []bool
	flips    int
}

// course is a cascade with all its moments.
type course struct {
	plan    api.Cascade
	reply   func(q api.Question) bool
	bits    []bool
	moments []moment
	told    []api.Answer
	flips   int
	failed  bool
}

// modelCourse goes through the whole course at once, with the answers that reply gives.
func modelCourse(plan api.Cascade, b []bool, reply func(q api.Question) bool) *course {
	x := &course{plan: plan, reply: reply, bits: slices.Clone(b)}
	var asked []api.Question
	for pass := range plan.Passes {
		blocks, _ := modelBlocks(plan, len(b), pass)
		for _, q := range blocks {
			x.ask(q)
		}
		asked = append(asked, blocks...)
		for odd := x.odd(asked); len(odd) > 0; odd = x.odd(asked) {
			if x.flips == len(b) {
				x.failed = true
				return x
			}
			x.halve(odd[0], x.ask(odd[0]))
		}
	}
	return x
}

// ask returns the answer to a question, which is asked if it is new.
func (x *course) ask(q api.Question) bool {
	for _, a := range x.told {
		if a.Q == q {
			return a.Parity
		}
	}
	x.moments = append(x.moments, moment{q, slices.Clone(x.bits), x.flips})
	x.told = append(x.told, api.Answer{Q: q, Parity: x.reply(q)})
	return x.told[len(x.told)-1].Parity
}

func (x *course) parity(q api.Question) bool {
	p, _ := modelReply(x.plan, x.bits, q)
	return p
}

// odd returns the odd ones of some blocks, in the order in which errors are searched for in them.
func (x *course) odd(asked []api.Question) []api.Question {
	l := slices.DeleteFunc(slices.Clone(asked), func(q api.Question) bool { return x.ask(q) == x.parity(q) })
	slices.SortFunc(l, func(a, b api.Question) int {
		return cmp.Or(cmp.Compare(a.To-a.From, b.To-b.From), cmp.Compare(a.Pass, b.Pass), cmp.Compare(a.From, b.From))
	})
	return l
}

// halve searches for an error in an odd question with an answer.
func (x *course) halve(q api.Question, answer bool) {
	k := q.To - q.From
	if k == 1 {
		at, _ := modelPlaces(x.plan, len(x.bits), q)
		x.bits[at[0]] = !x.bits[at[0]]
		x.flips++
		return
	}
	first, second := q, q
	first.To, second.From = q.From+k/2, q.From+k/2
	if a := x.ask(first); a != x.parity(first) {
		x.halve(first, a)
	} else {
		x.halve(second, a != answer)
	}
}

func modelRun(c api.Cascade, b, truth []bool) ([]bool, []api.Answer, api.Errno) {
	if e := firstOf(modelCheck(c), unless(len(b) <= 512 && len(truth) <= 512, api.ErrLong), unless(len(b) == len(truth), api.ErrEqual)); e != api.OK {
		return nil, nil, e
	}
	x := modelCourse(c, b, func(q api.Question) bool { p, _ := modelReply(c, truth, q); return p })
	return x.bits, x.told, api.OK
}

// modelRank eliminates the columns of big numbers, one after the other.
func modelRank(c api.Cascade, n int, l []api.Question) (int, api.Errno) {
	wrong := slices.ContainsFunc(l, func(q api.Question) bool { return !isQuestion(c, n, q) })
	if e := firstOf(modelCheck(c), unless(n <= 512, api.ErrLong), unless(n >= 0, api.ErrRange), unless(len(l) <= 4096, api.ErrMany), unless(!wrong, api.ErrRange)); e != api.OK {
		return 0, e
	}
	places := make([][]int, c.Passes)
	for pass := range places {
		places[pass], _ = modelOrder(c, n, pass)
	}
	var rows []*big.Int
	for _, q := range l {
		x := new(big.Int)
		for _, i := range places[q.Pass][q.From:q.To] {
			x.SetBit(x, i, 1)
		}
		rows = append(rows, x)
	}
	rank := 0
	for column := range n {
		i := slices.IndexFunc(rows, func(x *big.Int) bool { return x.Bit(column) == 1 })
		if i < 0 {
			continue
		}
		pivot := rows[i]
		rows = slices.Delete(rows, i, i+1)
		rank++
		for _, x := range rows {
			if x.Bit(column) == 1 {
				x.Xor(x, pivot)
			}
		}
	}
	return rank, api.OK
}

func modelCheckCode(c api.Code) api.Errno {
	return unless(in(c.Bits, 1, 512) && in(c.Checks, 1, 256) && in(c.Degree, 1, 4) && c.Degree <= c.Checks, api.ErrArg)
}

func modelMatrix(c api.Code) ([][]int, api.Errno) {
	if e := modelCheckCode(c); e != api.OK {
		return nil, e
	}
	var drawn [][]int
	d := algebra.New(c.Seed)
	for range c.Bits {
		l, _ := d.Perm(c.Checks)
		drawn = append(drawn, l[:c.Degree])
	}
	l := make([][]int, c.Checks)
	for i := range l {
		for bit, checks := range drawn {
			if slices.Contains(checks, i) {
				l[i] = append(l[i], bit)
			}
		}
	}
	return l, api.OK
}

func modelSyndrome(c api.Code, b []bool) ([]bool, api.Errno) {
	if e := firstOf(modelCheckCode(c), unless(len(b) == c.Bits, api.ErrEqual)); e != api.OK {
		return nil, e
	}
	checks, _ := modelMatrix(c)
	return paritiesOf(checks, b), api.OK
}

func paritiesOf(checks [][]int, b []bool) []bool {
	var l []bool
	for _, check := range checks {
		l = append(l, parityAt(b, check))
	}
	return l
}

func modelDecode(c api.Code, b, syndrome []bool, rounds int) ([]bool, int, api.Errno) {
	if e := firstOf(modelCheckCode(c), unless(len(b) == c.Bits && len(syndrome) == c.Checks, api.ErrEqual), unless(in(rounds, 0, 64), api.ErrRange)); e != api.OK {
		return nil, 0, e
	}
	checks, _ := modelMatrix(c)
	x := slices.Clone(b)
	for done := range rounds {
		votes := map[int]int{}
		unsatisfied := 0
		for i, check := range checks {
			if parityAt(x, check) == syndrome[i] {
				continue
			}
			unsatisfied++
			for _, bit := range check {
				votes[bit]++
			}
		}
		if unsatisfied == 0 {
			return x, done, api.OK
		}
		if len(votes) == 0 {
			return nil, 0, api.ErrNoise
		}
		most := 0
		for _, n := range votes {
			most = max(most, n)
		}
		for bit, n := range votes {
			x[bit] = x[bit] != (n == most)
		}
	}
	if !slices.Equal(paritiesOf(checks, x), syndrome) {
		return nil, 0, api.ErrNoise
	}
	return x, rounds, api.OK
}

func modelNearest(c api.Code, b, syndrome []bool, most int) ([]bool, int, api.Errno) {
	if e := firstOf(modelCheckCode(c), unless(len(b) == c.Bits && len(syndrome) == c.Checks, api.ErrEqual), unless(in(most, 0, 3) && (c.Bits <= 64 || most <= 2), api.ErrRange)); e != api.OK {
		return nil, 0, e
	}
	checks, _ := modelMatrix(c)
	var fitting [][]int
	for _, at := range subsets(c.Bits, most) {
		if slices.Equal(paritiesOf(checks, flip(b, at...)), syndrome) {
			fitting = append(fitting, at)
		}
	}
	if len(fitting) == 0 {
		return nil, 0, api.ErrNone
	}
	at := slices.MinFunc(fitting, func(x, y []int) int { return cmp.Or(cmp.Compare(len(x), len(y)), slices.Compare(x, y)) })
	return flip(b, at...), len(at), api.OK
}

// subsets returns all increasing lists of at most `most` numbers below n.
func subsets(n, most int) [][]int {
	l := [][]int{nil}
	for range most {
		for _, x := range l {
			first := 0
			if len(x) > 0 {
				first = x[len(x)-1] + 1
			}
			for i := first; i < n; i++ {
				l = append(l, append(slices.Clone(x), i))
			}
		}
	}
	slices.SortFunc(l, slices.Compare)
	return slices.CompactFunc(l, slices.Equal)
}
