package session

import (
	"slices"

	"waveplate/algebra"
	"waveplate/api"
)

// wordBits is how many bits a word has, and each number of a letter but its tag.
const wordBits = 16

// Bits returns what is authenticated of a letter.
func Bits(l api.Letter, width int) ([]bool, api.Errno) {
	if !isWidth(width) || !isLetter(l, width) {
		return nil, api.ErrArg
	}
	return bitsOf(l), api.OK
}

// isLetter reports whether a letter is valid for a width.
func isLetter(l api.Letter, width int) bool {
	return within(l.Session, 1, api.MaxSessions) &&
		within(l.Kind, api.LetterHead, api.LetterStop) &&
		isWord(l.Number) &&
		len(l.Words) <= api.MaxWords &&
		!slices.ContainsFunc(l.Words, func(word int) bool { return !isWord(word) }) &&
		l.Tag>>width == 0
}

func isWord(n int) bool { return within(n, 0, 1<<wordBits-1) }

// bitsOf returns the bits of a letter that is valid but for its tag.
func bitsOf(l api.Letter) []bool {
	var bits []bool
	for _, n := range slices.Concat([]int{l.Session, l.Kind, l.Number}, l.Words) {
		word, _ := algebra.Number(uint64(n), wordBits)
		bits = append(bits, word...)
	}
	return bits
}

// cloneLetter returns a letter that shares no memory with l.
func cloneLetter(l api.Letter) api.Letter {
	l.Words = slices.Clone(l.Words)
	return l
}

// sameLetter reports whether two letters are equal.
func sameLetter(l, m api.Letter) bool {
	return l.Session == m.Session && l.Kind == m.Kind && l.Number == m.Number && l.Tag == m.Tag && slices.Equal(l.Words, m.Words)
}
