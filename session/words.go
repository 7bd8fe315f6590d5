package session

import "waveplate/api"

// insist ends the work on a letter if its words are not as they have to be. Take recovers that.
func insist(right bool) {
	if !right {
		panic(api.ErrForm)
	}
}

// insistOn ends the work on a letter unless it has n words, each of them at most most.
func insistOn(words []int, n, most int) {
	insist(len(words) == n)
	for _, word := range words {
		insist(word <= most)
	}
}

// bitsIn returns the bits that words say.
func bitsIn(words []int) []bool {
	insistOn(words, len(words), 1)
	return each(words, func(word int) bool { return word == 1 })
}

// number returns 1 for true, and 0 for false.
func number(bit bool) int {
	if bit {
		return 1
	}
	return 0
}

// headWord returns the word that says what a pulse of the head was.
func headWord(p api.Pulse) int { return 4*number(!p.Seen) + 2*p.Basis + number(p.Bit) }

// headPulse returns the pulse that a word from 0 to 7 says.
func headPulse(word int) api.Pulse {
	return api.Pulse{Basis: word / 2 % 2, Bit: word%2 == 1, Class: api.Signal, Seen: word < 4}
}

// heardWord returns the word that says a slot and its basis.
func heardWord(h api.Heard) int { return 2*h.Slot + h.Basis }

// heardIn returns the slot and the basis that a word says.
func heardIn(word int) api.Heard { return api.Heard{Slot: word / 2, Basis: word % 2} }

// decoyWord returns the word that says a slot, and whether its class was Vacuum or Weak.
func decoyWord(slot, class int) int { return 2*slot + number(class == api.Weak) }

// decoyIn returns the slot that such a word says.
func decoyIn(word int) int { return word / 2 }

// each returns what f makes of each element of a list.
func each[A, B any](l []A, f func(a A) B) []B {
	made := make([]B, len(l))
	for i, a := range l {
		made[i] = f(a)
	}
	return made
}
