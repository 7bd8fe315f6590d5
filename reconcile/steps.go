package reconcile

import "waveplate/api"

// advance goes on with the course, up to the next question or to its end. Each step reports whether the next one follows.
//
// It begins with the blocks of the pass, even if a search waits for the answer: what is known is not asked again, and leads back to where the search was.
func (m *Machine) advance() {
	m.open = api.Question{}
	steps := []func() bool{m.askBlocks, m.correct, m.endPass}
	for i := 0; steps[i](); i = (i + 1) % len(steps) {
	}
}

// askBlocks asks the first block of this pass that was not asked yet, and reports true if there is none.
func (m *Machine) askBlocks() bool {
	for _, block := range blocks(m.plan, len(m.bits), m.pass) {
		if !m.isKnown(block) {
			m.open = block
			return false
		}
	}
	return true
}

// correct searches for errors as long as there is an odd block, and reports false if it has to ask, or has failed.
func (m *Machine) correct() bool {
	for block, found := m.oddBlock(); found; block, found = m.oddBlock() {
		if m.flips == len(m.bits) {
			m.failed = true
			return false
		}
		if !m.search(block) {
			return false
		}
	}
	return true
}

// endPass goes on to the next pass, and reports false if this was the last one.
func (m *Machine) endPass() bool {
	m.pass++
	return m.pass < m.plan.Passes
}

// search halves an odd question until one bit is left, and inverts it. It reports false if it has to ask first.
func (m *Machine) search(part api.Question) bool {
halving:
	for {
		first := firstHalf(part)
		switch {
		case size(part) == 1:
			break halving
		case !m.isKnown(first):
			m.open = first
			return false
		case m.isOdd(first):
			part = first
		default:
			// The error is in the second half, whose answer follows from those of the whole and of the first half.
			part.From = first.To
		}
	}
	for _, i := range m.places(part) {
		m.bits[i] = !m.bits[i]
	}
	m.flips++
	return true
}

// oddBlock returns the smallest odd block of this pass and the earlier ones, and whether there is one. Of several it is the first one.
func (m *Machine) oddBlock() (smallest api.Question, found bool) {
	for pass := range m.pass + 1 {
		for _, block := range blocks(m.plan, len(m.bits), pass) {
			if m.isOdd(block) && (!found || size(block) < size(smallest)) {
				smallest, found = block, true
			}
		}
	}
	return smallest, found
}

// isKnown reports whether a question was answered.
func (m *Machine) isKnown(q api.Question) bool {
	_, known := m.known[q]
	return known
}

// isOdd reports whether the answer to a question that was answered is not the parity of its bits as they are now.
func (m *Machine) isOdd(q api.Question) bool { return m.known[q] != parityAt(m.bits, m.places(q)) }
