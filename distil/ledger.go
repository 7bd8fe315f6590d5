package distil

import (
	"slices"
	"strconv"
	"strings"

	"waveplate/api"
)

// Check reports whether items are a ledger.
func Check(l []api.Item) api.Errno {
	if len(l) > api.MaxItems {
		return api.ErrMany
	}
	for _, item := range l {
		if e := checkItem(item); e != api.OK {
			return e
		}
	}
	return api.OK
}

// Enter returns a ledger with more bits.
func Enter(l []api.Item, kind, bits int) ([]api.Item, api.Errno) {
	if e := Check(l); e != api.OK {
		return nil, e
	}
	item := api.Item{Kind: kind, Bits: bits}
	if e := checkItem(item); e != api.OK {
		return nil, e
	}
	before := l
	if last := len(l) - 1; last >= 0 && l[last].Kind == kind {
		before = l[:last]
		item.Bits += l[last].Bits
	}
	switch {
	case item.Bits > api.MaxBits:
		return nil, api.ErrOver
	case len(before) == api.MaxItems:
		return nil, api.ErrMany
	}
	return slices.Concat(before, []api.Item{item}), api.OK
}

// Total returns the total of a ledger.
func Total(l []api.Item) (int, api.Errno) {
	return sum(l, func(int) bool { return true })
}

// Of returns the bits of a kind.
func Of(l []api.Item, kind int) (int, api.Errno) {
	n, e := sum(l, func(k int) bool { return k == kind })
	switch {
	case e != api.OK:
		return 0, e
	case !isKind(kind):
		return 0, api.ErrArg
	}
	return n, api.OK
}

// Text returns the text of a ledger.
func Text(l []api.Item) (string, api.Errno) {
	if e := Check(l); e != api.OK {
		return "", e
	}
	words := kindWords()
	var text strings.Builder
	for _, item := range l {
		text.WriteString(words[item.Kind] + " " + strconv.Itoa(item.Bits) + "\n")
	}
	return text.String(), api.OK
}

// Parse reads a ledger.
func Parse(s string) ([]api.Item, api.Errno) {
	if len(s) > api.MaxText {
		return nil, api.ErrLong
	}
	var l []api.Item
	for rest := s; rest != ""; {
		var line string
		line, rest, _ = strings.Cut(rest, "\n")
		l = append(l, parseItem(line))
	}
	// Text writes each ledger in one way only; every other text of the same items is refused here.
	if text, e := Text(l); e != api.OK || text != s {
		return nil, api.ErrForm
	}
	return l, api.OK
}

// checkItem returns the error of an item.
func checkItem(item api.Item) api.Errno {
	switch {
	case !isKind(item.Kind):
		return api.ErrArg
	case item.Bits < 0 || item.Bits > api.MaxBits:
		return api.ErrRange
	}
	return api.OK
}

// isKind reports whether items of a kind exist.
func isKind(kind int) bool { return kind > 0 && kind < len(kindWords()) }

// kindWords returns the word of each kind of items. There is no kind 0.
func kindWords() [5]string {
	return [...]string{
		api.ItemParity: "parity",
		api.ItemCheck:  "check",
		api.ItemHash:   "hash",
		api.ItemExtra:  "extra",
	}
}

// sum returns the sum of the bits of those items of a ledger whose kinds count.
func sum(l []api.Item, counts func(kind int) bool) (int, api.Errno) {
	if e := Check(l); e != api.OK {
		return 0, e
	}
	n := 0
	for _, item := range l {
		if counts(item.Kind) {
			n += item.Bits
		}
	}
	return n, api.OK
}

// parseItem returns the item of a line without its line feed. What it returns for another text is not valid, or has another line.
func parseItem(line string) api.Item {
	word, digits, _ := strings.Cut(line, " ")
	bits, err := strconv.Atoi(digits)
	if err != nil {
		return api.Item{}
	}
	words := kindWords()
	return api.Item{Kind: slices.Index(words[:], word), Bits: bits}
}
