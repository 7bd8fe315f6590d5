package optics

import (
	"strconv"
	"strings"
)

// number is a number in a line: the field that holds it, and the range in which it has to be.
type number struct {
	field       *int
	least, most int
}

// inRange reports whether all fields hold what they may.
func inRange(l []number) bool {
	return all(l, func(n number) bool { return *n.field >= n.least && *n.field <= n.most })
}

// write returns the line of a word and the numbers after it.
func write(word string, l []number) string {
	parts := []string{word}
	for _, n := range l {
		parts = append(parts, strconv.Itoa(*n.field))
	}
	return strings.Join(parts, " ")
}

// read sets the fields to the numbers of a text, and reports whether it has just so many, each as it is written. It does not look at their ranges.
func read(text string, l []number) bool {
	words := strings.SplitN(text, " ", len(l)+1)
	if len(words) != len(l) {
		return false
	}
	for i, word := range words {
		n, err := strconv.Atoi(word)
		if err != nil || strconv.Itoa(n) != word {
			return false
		}
		*l[i].field = n
	}
	return true
}
