package session_test

import (
	"fmt"
	"math"
	"slices"
	"testing"

	"waveplate/api"
	"waveplate/session"
)

// setupField is a number of a setup, and its least and greatest values.
type setupField struct {
	name        string
	set         func(s *api.Setup, n int)
	least, most int
}

func setupFields() []setupField {
	return []setupField{
		{"Slots", func(s *api.Setup, n int) { s.Slots = n }, 80, 4000}, // not fewer than Head
		{"Slots without a head", func(s *api.Setup, n int) { s.Slots, s.Head = n, 0 }, 1, 4000},
		{"Head", func(s *api.Setup, n int) { s.Head = n }, 0, 500},
		{"Need", func(s *api.Setup, n int) { s.Need = n }, 0, 4096},
		{"Block", func(s *api.Setup, n int) { s.Block = n }, 41, 512}, // more than Sample
		{"Block without a sample", func(s *api.Setup, n int) { s.Block, s.Sample = n, 0 }, 1, 512},
		{"Sample", func(s *api.Setup, n int) { s.Sample = n }, 0, 139},
		{"Passes", func(s *api.Setup, n int) { s.Plan.Passes = n }, 1, 6},
		{"Plan.Block", func(s *api.Setup, n int) { s.Plan.Block = n }, 1, 512},
		{"Margin", func(s *api.Setup, n int) { s.Margin = n }, 0, 512},
		{"Tries", func(s *api.Setup, n int) { s.Tries = n }, 1, 100},
		{"Eta", func(s *api.Setup, n int) { s.Optics.Eta = n }, 0, 256},
	}
}

// P7.1: the numbers of a setup, at their limits and beyond.
func TestCheckNumbers(t *testing.T) {
	for _, f := range setupFields() {
		for _, n := range slices.Concat(edgeInts, []int{f.least - 1, f.least, f.most, f.most + 1}) {
			s := example()
			f.set(&s, n)
			err := api.ErrArg
			if n >= f.least && n <= f.most {
				err = api.OK
			}
			wantError(t, fmt.Sprint("Check with ", f.name, " ", n), session.Check(s), err)
		}
	}
	for _, w := range edgeInts {
		s := example()
		s.Width = w
		wantError(t, fmt.Sprint("Check with the width ", w), session.Check(s), map[bool]api.Errno{true: api.OK, false: api.ErrArg}[w == 8 || w == 16 || w == 32])
	}
}

// P7.1: the other parts of a setup.
func TestCheckParts(t *testing.T) {
	long := slices.Repeat(api.Nat{1}, 65)
	for name, c := range map[string]struct {
		change func(s *api.Setup)
		err    api.Errno
	}{
		"nothing changed":       {func(s *api.Setup) {}, api.OK},
		"any seed":              {func(s *api.Setup) { s.Seed, s.Plan.Seed = math.MaxUint64, math.MaxUint64 }, api.OK},
		"eps 0":                 {func(s *api.Setup) { s.Eps = frac(0, 1) }, api.OK},
		"eps below 1":           {func(s *api.Setup) { s.Eps = frac(6, 7) }, api.OK},
		"eps 1":                 {func(s *api.Setup) { s.Eps = frac(7, 7) }, api.ErrArg},
		"eps above 1":           {func(s *api.Setup) { s.Eps = frac(8, 7) }, api.ErrArg},
		"eps of 0 parts":        {func(s *api.Setup) { s.Eps = frac(0, 0) }, api.ErrArg},
		"a long eps":            {func(s *api.Setup) { s.Eps.Den = long }, api.ErrArg},
		"a long eps at the end": {func(s *api.Setup) { s.Eps.Den = long[1:] }, api.OK},
		"no eps":                {func(s *api.Setup) { s.Eps = api.Frac{} }, api.ErrArg},
		"limit above 1":         {func(s *api.Setup) { s.Limit = frac(9, 2) }, api.OK},
		"limit of 0 parts":      {func(s *api.Setup) { s.Limit = frac(1, 0) }, api.ErrArg},
		"a long limit":          {func(s *api.Setup) { s.Limit.Num = long }, api.ErrArg},
		"no limit":              {func(s *api.Setup) { s.Limit = api.Frac{} }, api.ErrArg},
		"a wrong kind":          {func(s *api.Setup) { s.Optics.Kind = 3 }, api.ErrArg},
		"wrong weights":         {func(s *api.Setup) { s.Optics.Photons[2][3] = 1 }, api.ErrArg},
		"pairs":                 {func(s *api.Setup) { s.Optics.Kind = api.Pairs }, api.OK},
		"decoys":                {func(s *api.Setup) { s.Optics = decoys() }, api.OK},
		"decoys, not suited":    {func(s *api.Setup) { s.Optics.Kind = api.Decoy }, api.ErrArg},
		"decoys, wrong weights": {func(s *api.Setup) { s.Optics = decoys(); s.Optics.Classes[0]++ }, api.ErrArg},
		"no head, all of it":    {func(s *api.Setup) { s.Head, s.Slots = 0, 1 }, api.OK},
		"a sample of all":       {func(s *api.Setup) { s.Block, s.Sample = 1, 1 }, api.ErrArg},
		"nothing at all":        {func(s *api.Setup) { *s = api.Setup{} }, api.ErrArg},
	} {
		s := example()
		c.change(&s)
		wantError(t, "Check: "+name, session.Check(s), c.err)
		// Both of these look at the setup before anything else.
		if c.err != api.OK {
			many := make([]bool, api.MaxBits+1)
			if x, e := session.NewStation(s, 0, many); x != nil || e != c.err {
				t.Errorf("NewStation: %s: %v, %d", name, x, e)
			}
			if p, e := session.NewPair(s, make([]api.Rule, 33), many, 0); p != nil || e != c.err {
				t.Errorf("NewPair: %s: %v, %d", name, p, e)
			}
		}
	}
}

// P7.1: the bits of letters that are valid.
func TestBits(t *testing.T) {
	for _, c := range []struct {
		l    api.Letter
		want string
	}{
		{api.Letter{Session: 1, Kind: 2, Number: 3, Words: []int{65535, 0, 256}, Tag: 9}, "0000000000000001" + "0000000000000010" + "0000000000000011" + "1111111111111111" + "0000000000000000" + "0000000100000000"},
		{api.Letter{Session: 1000, Kind: 11, Number: 65535}, "0000001111101000" + "0000000000001011" + "1111111111111111"},
		{api.Letter{Session: 513, Kind: 1, Number: 0, Words: []int{}}, "0000001000000001" + "0000000000000001" + "0000000000000000"},
	} {
		for _, w := range []int{8, 16, 32} {
			b, e := session.Bits(c.l, w)
			if textOf(b) != c.want || e != api.OK {
				t.Errorf("Bits of %v: %s, %d, want %s", c.l, textOf(b), e, c.want)
			}
		}
	}
	l := api.Letter{Session: 1, Kind: 1, Words: slices.Repeat([]int{40000}, api.MaxWords)}
	if b, e := session.Bits(l, 8); e != api.OK || textOf(b) != letterText(l) || len(b) != 16*4099 {
		t.Errorf("Bits of %d words: %d bits, %d", api.MaxWords, len(b), e)
	}
}

// P7.1: letters that are not valid, and wrong widths.
func TestBitsErrors(t *testing.T) {
	check := func(what string, l api.Letter, w int, ok bool) {
		t.Helper()
		b, e := session.Bits(l, w)
		if ok != (e == api.OK) || !ok && (e != api.ErrArg || b != nil) {
			t.Errorf("Bits of %s, width %d: %d bits, %d", what, w, len(b), e)
		}
	}
	right := api.Letter{Session: 5, Kind: 5, Number: 5, Words: []int{5, 5}, Tag: 5}
	for _, n := range edgeInts {
		l := right
		l.Session = n
		check(fmt.Sprint("session ", n), l, 8, n >= 1 && n <= 1000)
		l = right
		l.Kind = n
		check(fmt.Sprint("kind ", n), l, 8, n >= 1 && n <= 11)
		l = right
		l.Number = n
		check(fmt.Sprint("number ", n), l, 8, n >= 0 && n <= 65535)
		for i := range 2 {
			l = right
			l.Words = []int{5, 5}
			l.Words[i] = n
			check(fmt.Sprint("word ", n), l, 8, n >= 0 && n <= 65535)
		}
		check("the letter", right, n, n == 8 || n == 16 || n == 32)
	}
	for n, ok := range map[int]bool{4093: true, 4094: true, 4096: true, 4097: false} {
		l := right
		l.Words = make([]int, n)
		check(fmt.Sprint(n, " words"), l, 16, ok)
	}
	for w, tags := range map[int][]uint64{8: {255, 256}, 16: {65535, 65536}, 32: {1<<32 - 1, 1 << 32}} {
		l := right
		l.Tag = tags[0]
		check("the greatest tag", l, w, true)
		for _, tag := range []uint64{tags[1], 1 << 63, math.MaxUint64} {
			l.Tag = tag
			check(fmt.Sprint("tag ", tag), l, w, false)
		}
	}
	check("no letter", api.Letter{}, 8, false)
}
