package reconcile

import (
	"maps"
	"slices"

	"waveplate/api"
)

// Machine is the course of a cascade, as the station goes through it whose string is corrected.
type Machine struct {
	// self points to the machine itself: only what New and Copy return is valid, neither a zero value nor an assigned copy.
	self *Machine
	plan api.Cascade
	// orders are those of all passes. They are never changed, so that copies share them.
	orders [][]int
	bits   []bool
	known  map[api.Question]bool
	told   []api.Answer
	flips  int
	pass   int
	// open is the question that has to be answered next. No question is zero, so that zero means none: the cascade is over.
	open   api.Question
	failed bool
}

// New returns a cascade that corrects a string.
func New(c api.Cascade, b []bool) (*Machine, api.Errno) {
	if e := firstError(Check(c), checkLength(len(b))); e != api.OK {
		return nil, e
	}
	m := &Machine{plan: c, orders: orders(c, len(b)), bits: slices.Clone(b), known: map[api.Question]bool{}}
	m.self = m
	m.advance()
	return m, api.OK
}

// Copy returns an independent machine in the same state.
func (m *Machine) Copy() *Machine {
	if !m.valid() {
		return nil
	}
	c := *m
	c.self = &c
	c.bits, c.known, c.told = slices.Clone(m.bits), maps.Clone(m.known), slices.Clone(m.told)
	return &c
}

// Ask returns the question that has to be answered next.
func (m *Machine) Ask() (api.Question, bool, api.Errno) {
	if !m.valid() {
		return api.Question{}, false, api.ErrNil
	}
	return m.open, m.waits(), api.OK
}

// Tell answers this question.
func (m *Machine) Tell(parity bool) api.Errno {
	switch {
	case !m.valid():
		return api.ErrNil
	case !m.waits():
		return api.ErrState
	}
	m.known[m.open] = parity
	m.told = append(m.told, api.Answer{Q: m.open, Parity: parity})
	m.advance()
	return api.OK
}

// Bits returns the string as it is now.
func (m *Machine) Bits() []bool {
	if !m.valid() {
		return nil
	}
	return slices.Clone(m.bits)
}

// Known returns what was told.
func (m *Machine) Known() []api.Answer {
	if !m.valid() {
		return nil
	}
	return slices.Clone(m.told)
}

// Flips returns how many bits were inverted.
func (m *Machine) Flips() int {
	if !m.valid() {
		return 0
	}
	return m.flips
}

// Failed reports whether the cascade has failed.
func (m *Machine) Failed() bool { return m.valid() && m.failed }

// Run goes through a whole course.
func Run(c api.Cascade, b, truth []bool) ([]bool, []api.Answer, api.Errno) {
	if e := firstError(Check(c), checkLength(len(b)), checkLength(len(truth)), checkEqual(len(b), len(truth))); e != api.OK {
		return nil, nil, e
	}
	m, _ := New(c, b)
	for m.waits() {
		m.Tell(parityAt(truth, m.places(m.open)))
	}
	return m.bits, m.told, api.OK
}

func (m *Machine) valid() bool { return m != nil && m.self == m }

// waits reports whether there is a question that has to be answered.
func (m *Machine) waits() bool { return m.open != api.Question{} }

// places returns the indexes of the bits of a question.
func (m *Machine) places(q api.Question) []int { return m.orders[q.Pass][q.From:q.To] }
