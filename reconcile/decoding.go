package reconcile

import (
	"slices"

	"waveplate/algebra"
	"waveplate/api"
)

// Decode corrects a string by flipping.
func Decode(c api.Code, b, syndrome []bool, rounds int) ([]bool, int, api.Errno) {
	if e := firstError(checkStrings(c, b, syndrome), checkCount(rounds, api.MaxRounds)); e != api.OK {
		return nil, 0, e
	}
	checks, decoded := matrix(c), slices.Clone(b)
	for round := 0; ; round++ {
		unsatisfied, _ := algebra.Xor(parities(checks, decoded), syndrome)
		if algebra.Count(unsatisfied) == 0 {
			return decoded, round, api.OK
		}
		votes := countVotes(checks, unsatisfied, len(b))
		most := slices.Max(votes)
		if round == rounds || most == 0 {
			return nil, 0, api.ErrNoise
		}
		for i, n := range votes {
			decoded[i] = decoded[i] != (n == most)
		}
	}
}

// Nearest returns the nearest string with a syndrome.
func Nearest(c api.Code, b, syndrome []bool, most int) ([]bool, int, api.Errno) {
	if e := firstError(checkStrings(c, b, syndrome), checkCount(most, greatestDistance(c.Bits))); e != api.OK {
		return nil, 0, e
	}
	checks := matrix(c)
	unsatisfied, _ := algebra.Xor(parities(checks, b), syndrome)
	columns, sum := columnsOf(checks, c.Bits), rowOf(indexes(unsatisfied))
	for distance := range most + 1 {
		at, found := firstPlaces(columns, 0, distance, sum)
		if !found {
			continue
		}
		nearest := slices.Clone(b)
		for _, i := range at {
			nearest[i] = !nearest[i]
		}
		return nearest, distance, api.OK
	}
	return nil, 0, api.ErrNone
}

// checkStrings returns the error of a code, or of a string and a syndrome for it.
func checkStrings(c api.Code, b, syndrome []bool) api.Errno {
	return firstError(CheckCode(c), checkEqual(len(b), c.Bits), checkEqual(len(syndrome), c.Checks))
}

// greatestDistance returns within what distance a string of n bits may be searched for: all sets of so many places are tried.
func greatestDistance(n int) int {
	if n > 64 {
		return 2
	}
	return 3
}

// countVotes returns for each of n bits how many unsatisfied checks it is in.
func countVotes(checks [][]int, unsatisfied []bool, n int) []int {
	votes := make([]int, n)
	for i, check := range checks {
		if !unsatisfied[i] {
			continue
		}
		for _, bit := range check {
			votes[bit]++
		}
	}
	return votes
}

// columnsOf returns for each of n bits the row that is true at the checks that it is in.
func columnsOf(checks [][]int, n int) []row {
	l := make([]row, n)
	for i, check := range checks {
		for _, bit := range check {
			l[bit] = l[bit].with(i)
		}
	}
	return l
}

// indexes returns the indexes at which a bit string is true.
func indexes(b []bool) []int {
	var l []int
	for i, bit := range b {
		if bit {
			l = append(l, i)
		}
	}
	return l
}

// firstPlaces returns the first list of n increasing places, from a place on, whose columns have a given xor, and whether there is one.
func firstPlaces(columns []row, from, n int, sum row) ([]int, bool) {
	if n == 0 {
		return nil, sum == row{}
	}
	for i := from; i < len(columns); i++ {
		if behind, found := firstPlaces(columns, i+1, n-1, sum.xor(columns[i])); found {
			return append([]int{i}, behind...), true
		}
	}
	return nil, false
}
