package reconcile

import (
	"math/bits"

	"waveplate/api"
)

// maxQuestions is how many questions there are at most of which the rank is asked.
const maxQuestions = 4096

// wordBits is how many bits a word of a row has.
const wordBits = 64

// row is a bit string of at most MaxBlock bits; what is behind them is false.
type row [api.MaxBlock / wordBits]uint64

// rowOf returns the row that is true at some indexes.
func rowOf(at []int) row {
	var r row
	for _, i := range at {
		r = r.with(i)
	}
	return r
}

// with returns a row that is true at one more index.
func (r row) with(i int) row {
	r[i/wordBits] |= 1 << (i % wordBits)
	return r
}

// xor returns the row that is true where two rows differ.
func (r row) xor(other row) row {
	for i := range r {
		r[i] ^= other[i]
	}
	return r
}

// lead returns the first index at which a row is true. It must not be false everywhere.
func (r row) lead() int {
	i := 0
	for r[i] == 0 {
		i++
	}
	return wordBits*i + bits.TrailingZeros64(r[i])
}

// Rank returns how many bits some answers disclose.
func Rank(c api.Cascade, n int, l []api.Question) (int, api.Errno) {
	if e := firstError(Check(c), checkLength(n)); e != api.OK {
		return 0, e
	}
	if len(l) > maxQuestions {
		return 0, api.ErrMany
	}
	for _, q := range l {
		if e := checkQuestion(c, n, q); e != api.OK {
			return 0, e
		}
	}
	places := orders(c, n)
	rows := make([]row, len(l))
	for i, q := range l {
		rows[i] = rowOf(places[q.Pass][q.From:q.To])
	}
	return rank(rows), api.OK
}

// rank returns the greatest number of rows of which none is the xor of others.
func rank(rows []row) int {
	// Of the rows that are kept, there is one at most with each lead.
	var kept [api.MaxBlock]row
	n := 0
	for _, r := range rows {
		for r != (row{}) {
			lead := r.lead()
			if kept[lead] == (row{}) {
				kept[lead] = r
				n++
				break
			}
			r = r.xor(kept[lead])
		}
	}
	return n
}
