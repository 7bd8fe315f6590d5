package reconcile_test

import (
	"fmt"
	"math/rand/v2"
	"slices"
	"testing"

	"waveplate/api"
	"waveplate/reconcile"
)

// checkMachine fails unless a machine is in this state. It asks twice, as asking changes nothing.
func checkMachine(t *testing.T, what string, m *reconcile.Machine, q api.Question, bits []bool, told []api.Answer, flips int, failed bool) {
	t.Helper()
	for range 2 {
		got, open, e := m.Ask()
		wantOne(t, what+": Ask", got, e, q, api.OK)
		wantOne(t, what+": is there a question", open, e, q != api.Question{}, api.OK)
	}
	want(t, what+": Bits", m.Bits(), api.OK, bits, api.OK)
	want(t, what+": Known", m.Known(), api.OK, told, api.OK)
	wantOne(t, what+": Flips", m.Flips(), api.OK, flips, api.OK)
	wantOne(t, what+": Failed", m.Failed(), api.OK, failed, api.OK)
}

// checkCourse goes through a course with a machine, compares all its moments with those of the model, and returns the model's course.
func checkCourse(t *testing.T, c api.Cascade, b []bool, reply func(q api.Question) bool) *course {
	t.Helper()
	x := modelCourse(c, b, reply)
	what := fmt.Sprintf("%v, %s", c, short(b))
	m := newMachine(t, c, b)
	for i, now := range x.moments {
		checkMachine(t, what, m, now.question, now.bits, x.told[:i], now.flips, false)
		if t.Failed() {
			t.FailNow()
		}
		tell(t, m, x.told[i].Parity)
	}
	checkMachine(t, what, m, api.Question{}, x.bits, x.told, x.flips, x.failed)
	for _, parity := range []bool{false, true} {
		wantOne(t, what+": Tell in the end", 0, m.Tell(parity), 0, api.ErrState)
	}
	checkMachine(t, what, m, api.Question{}, x.bits, x.told, x.flips, x.failed)
	return x
}

// by returns the answers of a true string.
func by(c api.Cascade, truth []bool) func(q api.Question) bool {
	return func(q api.Question) bool { p, _ := modelReply(c, truth, q); return p }
}

// anyhow returns answers that may fit no string.
func anyhow(r *rand.Rand) func(q api.Question) bool {
	return func(q api.Question) bool { return r.IntN(2) == 1 }
}

// P5.3 to P5.5: the whole course with the answers of a true string.
func TestCourses(t *testing.T) {
	r := newRand()
	back := 0
	for range 1500 {
		truth := randomBits(r, r.IntN(50))
		b := noisy(r, truth, oneOf(r, []int{2, 5, 10, 30}))
		c := randomPlan(r, len(b))
		x := checkCourse(t, c, b, by(c, truth))
		if x.failed {
			t.Errorf("%v failed for %s and %s", c, short(b), short(truth))
		}
		for i, a := range x.told {
			if i > 0 && a.Q.Pass < x.told[i-1].Q.Pass {
				back++
			}
		}
	}
	if back < 100 {
		t.Errorf("only %d searches in blocks of an earlier pass", back)
	}
}

// P5.3 to P5.5: the whole course with answers that may fit no string.
func TestCoursesWithoutATrueString(t *testing.T) {
	r := newRand()
	failed, ended := 0, 0
	for range 1500 {
		b := randomBits(r, r.IntN(30))
		if x := checkCourse(t, randomPlan(r, len(b)), b, anyhow(r)); x.failed {
			failed++
		} else {
			ended++
		}
	}
	if failed < 200 || ended < 200 {
		t.Errorf("%d failed, %d ended", failed, ended)
	}
}

// P5.3 to P5.5: strings of 511 and 512 bits.
func TestLongCourses(t *testing.T) {
	r := newRand()
	for i, block := range []int{1, 4, 8, 16, 100, 512} {
		truth := randomBits(r, 511+i%2)
		c := api.Cascade{Passes: 1 + i, Block: block, Seed: r.Uint64()}
		b, told, e := reconcile.Run(c, noisy(r, truth, 20), truth)
		if e != api.OK || len(b) != len(truth) || len(told) == 0 {
			t.Errorf("%v: %d bits, %d answers, %d", c, len(b), len(told), e)
		}
	}
	c := api.Cascade{Passes: 3, Block: 100, Seed: 3}
	truth := randomBits(r, 512)
	checkCourse(t, c, noisy(r, truth, 30), by(c, truth))
	checkCourse(t, api.Cascade{Passes: 2, Block: 256}, randomBits(r, 60), anyhow(r))
}

// P5.3 to P5.5: all answers to a few bits.
func TestAllAnswers(t *testing.T) {
	for n := range 4 {
		for _, c := range []api.Cascade{{Passes: 1, Block: 4}, {Passes: 2, Block: 1, Seed: 3}, {Passes: 2, Block: 2, Seed: 5}, {Passes: 3, Block: 3}} {
			for answers := range 1 << 10 {
				asked := -1
				reply := func(q api.Question) bool { asked++; return answers>>min(asked, 9)&1 == 1 }
				checkCourse(t, c, make([]bool, n), reply)
			}
		}
	}
}

// P5.5: a course that another program computed. A search in pass 1 makes a block of pass 0 odd, whose first half was asked before.
func TestKnownCourse(t *testing.T) {
	c := api.Cascade{Passes: 2, Block: 4, Seed: 126}
	told := []api.Answer{
		{Q: api.Question{From: 0, To: 4}, Parity: false}, {Q: api.Question{From: 4, To: 8}, Parity: true},
		{Q: api.Question{From: 8, To: 12}, Parity: false}, {Q: api.Question{From: 12, To: 16}, Parity: false},
		{Q: api.Question{From: 4, To: 6}, Parity: true}, {Q: api.Question{From: 4, To: 5}, Parity: false},
		{Q: api.Question{From: 12, To: 14}, Parity: true}, {Q: api.Question{From: 14, To: 15}, Parity: true},
		{Q: api.Question{Pass: 1, From: 0, To: 8}, Parity: false}, {Q: api.Question{Pass: 1, From: 8, To: 16}, Parity: true},
		{Q: api.Question{Pass: 1, From: 0, To: 4}, Parity: false}, {Q: api.Question{Pass: 1, From: 0, To: 2}, Parity: true},
		{Q: api.Question{Pass: 1, From: 0, To: 1}, Parity: false}, {Q: api.Question{From: 12, To: 13}, Parity: true},
		{Q: api.Question{Pass: 1, From: 4, To: 6}, Parity: false}, {Q: api.Question{Pass: 1, From: 4, To: 5}, Parity: false},
		{Q: api.Question{From: 0, To: 2}, Parity: false}, {Q: api.Question{From: 2, To: 3}, Parity: false},
	}
	truth := bitsOf("0000011111001010")
	b, l, e := reconcile.Run(c, bitsOf("0101001111000111"), truth)
	want(t, "the string", b, e, truth, api.OK)
	want(t, "the answers", l, e, told, api.OK)
}

// P5.3 and P5.4: a cascade fails only if there is an error to search for, but as many bits were inverted as there are.
func TestFailure(t *testing.T) {
	one := bitsOf("0")
	c := api.Cascade{Passes: 2, Block: 1}
	m := newMachine(t, c, one)
	first, second := api.Question{To: 1}, api.Question{Pass: 1, To: 1}
	checkMachine(t, "at first", m, first, one, nil, 0, false)
	tell(t, m, true)
	told := []api.Answer{{Q: first, Parity: true}}
	checkMachine(t, "all bits were inverted", m, second, bitsOf("1"), told, 1, false)
	ended := m.Copy()
	tell(t, ended, true)
	checkMachine(t, "ended", ended, api.Question{}, bitsOf("1"), append(told, api.Answer{Q: second, Parity: true}), 1, false)
	tell(t, m, false)
	told = append(told, api.Answer{Q: second})
	checkMachine(t, "failed", m, api.Question{}, bitsOf("1"), told, 1, true)
	wantOne(t, "Tell", 0, m.Tell(true), 0, api.ErrState)
	checkMachine(t, "a copy of it", m.Copy(), api.Question{}, bitsOf("1"), told, 1, true)
	wantOne(t, "Tell of the copy", 0, m.Copy().Tell(true), 0, api.ErrState)
}

// P5.12 without a true string: a bit that is inverted twice counts twice.
func TestInvertedTwice(t *testing.T) {
	r := newRand()
	for range 1000 {
		b := randomBits(r, 2+r.IntN(6))
		x := checkCourse(t, api.Cascade{Passes: 2, Block: 1 + r.IntN(2), Seed: r.Uint64()}, b, anyhow(r))
		if x.flips > distance(x.bits, b) {
			return
		}
	}
	t.Error("no bit was inverted twice")
}

// P5.3: the errors of New.
func TestNew(t *testing.T) {
	good := api.Cascade{Passes: 1, Block: 1}
	for _, n := range []int{0, 1, 512, 513, 100000} {
		for _, c := range append(wrongPlans(), good) {
			m, e := reconcile.New(c, make([]bool, n))
			err := firstOf(modelCheck(c), unless(n <= 512, api.ErrLong))
			wantOne(t, fmt.Sprintf("New of %v, %d bits", c, n), m != nil, e, err == api.OK, err)
		}
	}
}

// P5.3 to P5.5: without bits a cascade has ended at once.
func TestNoBits(t *testing.T) {
	for passes := 1; passes <= 6; passes++ {
		m := newMachine(t, api.Cascade{Passes: passes, Block: 4}, nil)
		checkMachine(t, "no bits", m, api.Question{}, nil, nil, 0, false)
		wantOne(t, "Tell", 0, m.Tell(false), 0, api.ErrState)
	}
}

// P5.3: a copy and its original go on without each other, at each moment of a course.
func TestCopy(t *testing.T) {
	r := newRand()
	for range 100 {
		b := randomBits(r, 1+r.IntN(25))
		c := randomPlan(r, len(b))
		answers := randomBits(r, 1000)
		reply := func() func(q api.Question) bool {
			i := -1
			return func(q api.Question) bool { i++; return answers[i] }
		}
		x := modelCourse(c, b, reply())
		m := newMachine(t, c, b)
		for i := range x.told {
			// The copy gets the other answer, and then goes on somehow.
			k := m.Copy()
			tell(t, k, !answers[i])
			same := m.Copy()
			tell(t, same, answers[i])
			wantOne(t, "what the copy was told", k.Known()[i].Parity, api.OK, !answers[i], api.OK)
			for j := 0; !isOver(k); j++ {
				tell(t, k, j%3 == 0)
			}
			checkMachine(t, "the original", m, x.moments[i].question, x.moments[i].bits, x.told[:i], x.moments[i].flips, false)
			k = m.Copy()
			tell(t, m, answers[i])
			checkMachine(t, "the copy", k, x.moments[i].question, x.moments[i].bits, x.told[:i], x.moments[i].flips, false)
			if i%2 == 0 {
				m = k
				tell(t, m, answers[i])
			}
		}
		checkMachine(t, "in the end", m, api.Question{}, x.bits, x.told, x.flips, x.failed)
	}
}

// R4: objects that no function returned are not valid.
func TestMachinesThatAreNotValid(t *testing.T) {
	valid := newMachine(t, api.Cascade{Passes: 1, Block: 2}, bitsOf("00"))
	tell(t, valid, true)
	assigned := *valid
	overwritten := newMachine(t, api.Cascade{Passes: 1, Block: 2}, bitsOf("00"))
	*overwritten = reconcile.Machine{}
	for _, m := range []*reconcile.Machine{nil, {}, new(reconcile.Machine), &assigned, overwritten} {
		q, open, e := m.Ask()
		wantOne(t, "Ask", q, e, api.Question{}, api.ErrNil)
		wantOne(t, "is there a question", open, e, false, api.ErrNil)
		wantOne(t, "Tell", 0, m.Tell(true), 0, api.ErrNil)
		if m.Bits() != nil || m.Known() != nil || m.Flips() != 0 || m.Failed() || m.Copy() != nil {
			t.Errorf("%v, %v, %d, %v, %v", m.Bits(), m.Known(), m.Flips(), m.Failed(), m.Copy())
		}
	}
	checkMachine(t, "the valid one", valid, api.Question{To: 1}, bitsOf("00"), []api.Answer{{Q: api.Question{To: 2}, Parity: true}}, 0, false)
}

func checkRun(t *testing.T, c api.Cascade, b, truth []bool) api.Errno {
	t.Helper()
	what := fmt.Sprintf("Run of %v, %s, %s", c, short(b), short(truth))
	got, l, e := reconcile.Run(c, b, truth)
	bits, told, err := modelRun(c, b, truth)
	want(t, what, got, e, bits, err)
	want(t, what, l, e, told, err)
	return err
}

// P5.6: any plans and strings.
func TestRun(t *testing.T) {
	r := newRand()
	met := tally{}
	for range 3000 {
		truth := randomBits(r, r.IntN(40))
		c := anyPlan(r, len(truth))
		b := noisy(r, truth, 1+r.IntN(20))
		switch r.IntN(16) {
		case 0:
			b = b[:r.IntN(len(b)+1)]
		case 1:
			truth = append(truth, true)
		case 2:
			b = make([]bool, 513)
		case 3:
			truth = make([]bool, 513)
		}
		met[checkRun(t, c, b, truth)]++
	}
	met.wantAll(t, api.OK, api.ErrArg, api.ErrLong, api.ErrEqual)
}

// P5.6: the plan comes first, then strings that are too long, then different lengths.
func TestRunErrors(t *testing.T) {
	lengths := []int{0, 1, 511, 512, 513, 514}
	for _, c := range append(wrongPlans(), api.Cascade{Passes: 2, Block: 8}) {
		for _, n := range lengths {
			for _, m := range lengths {
				checkRun(t, c, make([]bool, n), make([]bool, m))
			}
		}
	}
}

// The chapter's examples of courses.
func TestRunExamples(t *testing.T) {
	c := api.Cascade{Passes: 1, Block: 4}
	answer := func(from, to int, parity bool) api.Answer {
		return api.Answer{Q: api.Question{From: from, To: to}, Parity: parity}
	}
	for _, x := range []struct {
		b, truth, want string
		told           []api.Answer
	}{
		{"0000", "0100", "0100", []api.Answer{answer(0, 4, true), answer(0, 2, true), answer(0, 1, false)}},
		{"000000", "000001", "000001", []api.Answer{answer(0, 4, false), answer(4, 6, true), answer(4, 5, false)}},
		{"0000", "1100", "0000", []api.Answer{answer(0, 4, false)}},
		{"", "", "", nil},
	} {
		b, l, e := reconcile.Run(c, bitsOf(x.b), bitsOf(x.truth))
		want(t, "the string", b, e, bitsOf(x.want), api.OK)
		want(t, "the answers", l, e, x.told, api.OK)
	}
	b, l, e := reconcile.Run(c, bitsOf("00"), bitsOf("0"))
	if b != nil || l != nil || e != api.ErrEqual {
		t.Errorf("different lengths: %v, %v, %d", b, l, e)
	}
	// All three blocks are odd: the last one is the smallest, and of the others the first one comes first.
	_, l, e = reconcile.Run(c, bitsOf("0000000000"), bitsOf("0100010010"))
	asked := []api.Answer{answer(0, 4, true), answer(4, 8, true), answer(8, 10, true), answer(8, 9, true), answer(0, 2, true), answer(0, 1, false), answer(4, 6, true), answer(4, 5, false)}
	if !slices.Equal(l, asked) || e != api.OK {
		t.Errorf("%v, %d", l, e)
	}
}
