package distil_test

import (
	"fmt"
	"math/rand/v2"
	"slices"
	"strconv"
	"strings"
	"testing"

	"waveplate/api"
	"waveplate/distil"
)

// checkLedger compares all functions with a ledger as an argument with the model, but for Enter, and returns the error of the ledger.
func checkLedger(t *testing.T, l []api.Item) api.Errno {
	t.Helper()
	what := "the ledger " + short(l)
	err := modelCheck(l)
	wantError(t, what+": Check", distil.Check(l), err)
	n, e := distil.Total(l)
	total, _ := modelTotal(l)
	wantOne(t, what+": Total", n, e, total, err)
	for kind := -1; kind <= 6; kind++ {
		checkOf(t, l, kind)
	}
	s, e := distil.Text(l)
	text, _ := modelText(l)
	wantOne(t, what+": Text", s, e, text, err)
	if err == api.OK {
		again, e := distil.Parse(text)
		want(t, what+": Parse", again, e, l, api.OK)
	}
	return err
}

func checkOf(t *testing.T, l []api.Item, kind int) api.Errno {
	t.Helper()
	n, e := distil.Of(l, kind)
	bits, err := modelOf(l, kind)
	wantOne(t, fmt.Sprintf("Of %s, %d", short(l), kind), n, e, bits, err)
	return err
}

func checkEnter(t *testing.T, l []api.Item, kind, bits int) api.Errno {
	t.Helper()
	got, e := distil.Enter(l, kind, bits)
	list, err := modelEnter(l, kind, bits)
	want(t, fmt.Sprintf("Enter %d, %d into %s", kind, bits, short(l)), got, e, list, err)
	return err
}

func checkParse(t *testing.T, s string) api.Errno {
	t.Helper()
	l, e := distil.Parse(s)
	list, err := modelParse(s)
	want(t, fmt.Sprintf("Parse of %.200q", s), l, e, list, err)
	return err
}

// P6.1 to P6.3: any ledgers, with and without faults.
func TestLedgers(t *testing.T) {
	r := newRand()
	met := tally{}
	for range 4000 {
		met[checkLedger(t, anyLedger(r, 12, oneOf(r, []int{3, 100, 65536})))]++
	}
	met.wantAll(t, api.OK, api.ErrMany, api.ErrArg, api.ErrRange)
}

// P6.1: the items of one kind and all edges of the bits, and of one number of bits and all edges of the kind.
func TestItems(t *testing.T) {
	for _, n := range edgeInts {
		for kind := range 6 {
			checkLedger(t, []api.Item{item(kind, n)})
			checkEnter(t, nil, kind, n)
		}
		for _, bits := range []int{-1, 0, 65536, 65537} {
			checkLedger(t, []api.Item{item(n, bits)})
			checkEnter(t, nil, n, bits)
		}
		wantOne(t, "Of no items", 0, checkOf(t, nil, n), 0, unless(in(n, 1, 4), api.ErrArg))
	}
}

// P6.1: too many items come before items that are not valid, and of these the first one counts, with its kind before its bits.
func TestOrderOfLedgerErrors(t *testing.T) {
	wrongKind, wrongBits, both := item(0, 7), item(1, -1), item(5, -1)
	for _, x := range []struct {
		l    []api.Item
		want api.Errno
	}{
		{append(manyItems(1000), wrongKind), api.ErrMany},
		{append([]api.Item{wrongBits}, manyItems(1000)...), api.ErrMany},
		{append(manyItems(999), wrongKind), api.ErrArg},
		{append(manyItems(999), wrongBits), api.ErrRange},
		{[]api.Item{wrongKind, wrongBits}, api.ErrArg},
		{[]api.Item{wrongBits, wrongKind}, api.ErrRange},
		{[]api.Item{item(1, 1), both, wrongBits}, api.ErrArg},
		{manyItems(1000), api.OK},
	} {
		wantOne(t, "the error of "+short(x.l), 0, checkLedger(t, x.l), 0, x.want)
		if x.want == api.OK {
			continue
		}
		// They come before all other errors.
		for _, y := range []struct{ kind, bits int }{{0, -1}, {1, -1}, {0, 1}, {1, 65536}} {
			wantOne(t, "Enter into "+short(x.l), 0, checkEnter(t, x.l, y.kind, y.bits), 0, x.want)
		}
		wantOne(t, "Of a wrong kind", 0, checkOf(t, x.l, 0), 0, x.want)
	}
}

// P6.1: any bits into any ledgers.
func TestEnter(t *testing.T) {
	r := newRand()
	met := tally{}
	for range 6000 {
		l := anyLedger(r, 5, oneOf(r, []int{10, 65536}))
		met[checkEnter(t, l, orEdge(r, 1+r.IntN(4)), orEdge(r, r.IntN(65537)))]++
	}
	met.wantAll(t, api.OK, api.ErrMany, api.ErrArg, api.ErrRange, api.ErrOver)
}

// P6.1: just as many bits as an item can have, one more, and a full ledger.
func TestEnterAtTheLimits(t *testing.T) {
	for _, x := range []struct {
		l          []api.Item
		kind, bits int
		want       api.Errno
	}{
		{[]api.Item{item(3, 65535)}, 3, 1, api.OK},
		{[]api.Item{item(3, 65535)}, 3, 2, api.ErrOver},
		{[]api.Item{item(3, 65536)}, 3, 0, api.OK},
		{[]api.Item{item(3, 65536)}, 3, 65536, api.ErrOver},
		{[]api.Item{item(3, 65536)}, 3, 65537, api.ErrRange},
		{[]api.Item{item(3, 65536)}, 4, 65536, api.OK},
		{[]api.Item{item(3, 65536), item(2, 0)}, 3, 65536, api.OK},
		{[]api.Item{item(3, 4)}, 5, 65536, api.ErrArg},
		{manyItems(999), 2, 9, api.OK},
		{manyItems(1000), 3, 9, api.OK},
		{manyItems(1000), 3, 65536, api.ErrOver},
		{manyItems(1000), 2, 0, api.ErrMany},
		{manyItems(1000), 2, 65537, api.ErrRange},
		{manyItems(1000), 0, 9, api.ErrArg},
	} {
		wantOne(t, fmt.Sprintf("Enter %d, %d into %s", x.kind, x.bits, short(x.l)), 0, checkEnter(t, x.l, x.kind, x.bits), 0, x.want)
	}
}

// P6.2: the greatest total.
func TestGreatestTotal(t *testing.T) {
	l := slices.Repeat([]api.Item{item(4, 65536)}, 1000)
	n, e := distil.Total(l)
	wantOne(t, "Total", n, e, 65536000, api.OK)
	n, e = distil.Of(l, 4)
	wantOne(t, "Of", n, e, 65536000, api.OK)
	checkLedger(t, l)
}

// P6.3: texts of a ledger that one change makes others, mostly of no ledger.
func TestChangedTexts(t *testing.T) {
	met := tally{}
	text := "parity 0\ncheck 65536\nhash 10\nhash 9\nextra 5\n"
	for i := range len(text) + 1 {
		met[checkParse(t, text[:i])]++
		met[checkParse(t, text[i:])]++
		for c := range 256 {
			met[checkParse(t, text[:i]+string([]byte{byte(c)})+text[i:])]++
			if i < len(text) {
				met[checkParse(t, text[:i]+string([]byte{byte(c)})+text[i+1:])]++
			}
		}
		for j := i + 1; j <= len(text); j++ {
			met[checkParse(t, text[:i]+text[j:])]++
		}
	}
	met.wantAll(t, api.OK, api.ErrForm)
}

// anyText returns the text of any line, mostly not that of an item.
func anyText(r *rand.Rand) string {
	words := []string{"parity", "check", "hash", "extra", "", "Hash", "sum", " hash", "hash ", "\x00", "é"}
	numbers := []string{"0", "7", "65536", "65537", "00", "07", "+7", "-0", "-7", "7.0", "1_0", "0x7", "", " ", "7 ", " 7", "7 7", "99999999999999999999", "18446744073709551623", "７"}
	ends := []string{"\n", "\n", "\n", "\n", "\r\n", "", " \n", "\n\n", "\t"}
	word, number, end := oneOf(r, words[:4]), oneOf(r, numbers[:3]), "\n"
	switch r.IntN(12) {
	case 0:
		word = oneOf(r, words)
	case 1:
		number = oneOf(r, numbers)
	case 2:
		end = oneOf(r, ends)
	case 3:
		return oneOf(r, words) + oneOf(r, []string{" ", "", "  ", "\t"}) + oneOf(r, numbers) + oneOf(r, ends)
	case 4:
		number = strconv.Itoa(oneOf(r, edgeInts))
	}
	return word + " " + number + end
}

// P6.3: texts with any lines.
func TestTexts(t *testing.T) {
	r := newRand()
	met := tally{}
	for range 8000 {
		s := ""
		for range r.IntN(4) {
			s += anyText(r)
		}
		met[checkParse(t, s)]++
	}
	met.wantAll(t, api.OK, api.ErrForm)
}

// P6.3: how long texts and ledgers may be.
func TestLongTexts(t *testing.T) {
	for _, x := range []struct {
		s    string
		want api.Errno
	}{
		{strings.Repeat("parity 65536\n", 1000), api.OK},
		{strings.Repeat("parity 65536\n", 1001), api.ErrForm},
		{strings.Repeat("hash 0\n", 1000), api.OK},
		{strings.Repeat("hash 0\n", 1001), api.ErrForm},
		{strings.Repeat("\n", 65536), api.ErrForm},
		{strings.Repeat("\n", 65537), api.ErrLong},
		{"hash " + strings.Repeat("9", 65530) + "\n", api.ErrForm},
		{"hash " + strings.Repeat("9", 65531) + "\n", api.ErrLong},
		{"hash 1\n" + strings.Repeat(" ", 65530), api.ErrLong},
	} {
		wantOne(t, fmt.Sprintf("Parse of %d bytes", len(x.s)), 0, checkParse(t, x.s), 0, x.want)
	}
	s, e := distil.Text(slices.Repeat([]api.Item{item(1, 65536)}, 1000))
	wantOne(t, "the longest text", len(s), e, 13000, api.OK)
}

// The chapter's examples of ledgers.
func TestLedgerExamples(t *testing.T) {
	l, e := distil.Enter(nil, api.ItemParity, 3)
	want(t, "parity 3", l, e, []api.Item{item(api.ItemParity, 3)}, api.OK)
	l, e = distil.Enter(l, api.ItemParity, 4)
	want(t, "parity 4", l, e, []api.Item{item(api.ItemParity, 7)}, api.OK)
	l, e = distil.Enter(l, api.ItemHash, 16)
	want(t, "hash 16", l, e, []api.Item{item(api.ItemParity, 7), item(api.ItemHash, 16)}, api.OK)
	n, e := distil.Total(l)
	wantOne(t, "Total", n, e, 23, api.OK)
	n, e = distil.Of(l, api.ItemHash)
	wantOne(t, "Of", n, e, 16, api.OK)
	s, e := distil.Text(l)
	wantOne(t, "Text", s, e, "parity 7\nhash 16\n", api.OK)
	l, e = distil.Parse("parity 07\n")
	want(t, "Parse of 07", l, e, nil, api.ErrForm)
	l, e = distil.Parse("")
	want(t, "Parse of an empty string", l, e, nil, api.OK)
	l, e = distil.Parse("parity 7\nparity 0\ncheck 1\nextra 2\n")
	want(t, "Parse of equal kinds", l, e, []api.Item{item(1, 7), item(1, 0), item(2, 1), item(4, 2)}, api.OK)
}
