package sift_test

import (
	"fmt"
	"slices"
	"testing"

	"waveplate/api"
	"waveplate/sift"
)

// checkAgreement fails unless Agreement says what the chapter says.
func checkAgreement(t *testing.T, head []api.Pulse, clicks []api.Click, shift int) api.Errno {
	t.Helper()
	n, e := sift.Agreement(head, clicks, shift)
	value, err := modelAgreement(head, clicks, shift)
	wantOne(t, fmt.Sprintf("Agreement of %s, %s, %d", short(head), short(clicks), shift), n, e, value, err)
	return err
}

// checkAlign fails unless Align says what the chapter says.
func checkAlign(t *testing.T, head []api.Pulse, clicks []api.Click, need int) api.Errno {
	t.Helper()
	n, e := sift.Align(head, clicks, need)
	value, err := modelAlign(head, clicks, need)
	wantOne(t, fmt.Sprintf("Align of %s, %s, %d", short(head), short(clicks), need), n, e, value, err)
	return err
}

// shifted returns clicks in which a head arrives with a shift, with some noise.
func shifted(head []api.Pulse, shift, n, noise int, click func(p api.Pulse) api.Click, other func() api.Click) []api.Click {
	l := make([]api.Click, n)
	for j := range l {
		l[j] = other()
		if i := j - shift; i >= 0 && i < len(head) && (noise == 0 || j%noise != 0) {
			l[j] = click(head[i])
		}
	}
	return l
}

// clickOf returns the click that agrees with a pulse and does not differ.
func clickOf(p api.Pulse) api.Click {
	if p.Bit {
		return api.Click{Basis: p.Basis, Kind: api.One}
	}
	return api.Click{Basis: p.Basis, Kind: api.Zero}
}

// wrongClickOf returns the click that differs from a pulse.
func wrongClickOf(p api.Pulse) api.Click {
	p.Bit = !p.Bit
	return clickOf(p)
}

// P4.1: any arguments.
func TestFrames(t *testing.T) {
	r := newRand()
	agreement, align := tally{}, tally{}
	for range 4000 {
		head, clicks := anyPulses(r), anyClicks(r)
		agreement[checkAgreement(t, head, clicks, orEdge(r, r.IntN(33)-16))]++
		align[checkAlign(t, head, clicks, orEdge(r, r.IntN(6)))]++
	}
	agreement.wantAll(t, api.OK, api.ErrMany, api.ErrArg, api.ErrRange)
	align.wantAll(t, api.OK, api.ErrMany, api.ErrArg, api.ErrRange, api.ErrSync)
}

// P4.1: a pulse and a click, of each sort.
func TestOneSlot(t *testing.T) {
	for i := range 1 << 5 {
		p := api.Pulse{Basis: i & 1, Bit: i>>1&1 == 1, Seen: i>>2&1 == 1}
		c := api.Click{Basis: i >> 3 & 1}
		for c.Kind = range 4 {
			right := 0
			if p.Seen && p.Basis == c.Basis {
				right = map[bool][]int{false: {0, 1, -1, 0}, true: {0, -1, 1, 0}}[p.Bit][c.Kind]
			}
			n, e := sift.Agreement([]api.Pulse{p}, []api.Click{c}, 0)
			wantOne(t, fmt.Sprint("Agreement of ", p, c), n, e, right, api.OK)
			for shift := -16; shift <= 16; shift++ {
				checkAgreement(t, []api.Pulse{{}, p}, []api.Click{{}, {}, c}, shift)
			}
		}
	}
}

// P4.1: the class and the photons of a pulse do not matter.
func TestWhatOfPulsesMatters(t *testing.T) {
	for class := range 3 {
		for photons := range 4 {
			n, e := sift.Agreement([]api.Pulse{{Class: class, Photons: photons, Seen: true}}, []api.Click{{Kind: api.Zero}}, 0)
			wantOne(t, fmt.Sprint("class ", class, ", photons ", photons), n, e, 1, api.OK)
		}
	}
}

// P4.1: each shift is found, with noise and with slots at the ends.
func TestEachShiftIsFound(t *testing.T) {
	r := newRand()
	for shift := -16; shift <= 16; shift++ {
		head := randomPulses(r, 100)
		noisy := shifted(head, shift, 120, 3, clickOf, func() api.Click { return randomClicks(r, 1)[0] })
		s, e := sift.Align(head, noisy, 10)
		wantOne(t, fmt.Sprint("the shift ", shift), s, e, shift, api.OK)
		checkAlign(t, head, noisy, 0)

		// One pulse and one click: no other shift brings them together.
		head = make([]api.Pulse, 20)
		head[18].Seen = true
		clicks := make([]api.Click, 40)
		clicks[18+shift].Kind = api.Zero
		for need, err := range []api.Errno{api.OK, api.OK, api.ErrSync} {
			value := shift
			if err != api.OK {
				value = 0
			}
			s, e := sift.Align(head, clicks, need)
			wantOne(t, fmt.Sprint("one slot, the shift ", shift, ", need ", need), s, e, value, err)
		}
	}
	for _, shift := range []int{-17, 17} {
		head := make([]api.Pulse, 20)
		head[18].Seen = true
		clicks := make([]api.Click, 40)
		clicks[18+shift].Kind = api.Zero
		s, e := sift.Align(head, clicks, 1)
		wantOne(t, fmt.Sprint("beyond the limit: ", shift), s, e, 0, api.ErrSync)
	}
}

// P4.1: of several best shifts the first one is meant.
func TestEqualShifts(t *testing.T) {
	for i, a := range theShifts {
		for _, b := range theShifts[i+1:] {
			head := make([]api.Pulse, 20)
			head[18].Seen = true
			clicks := make([]api.Click, 40)
			clicks[18+a].Kind, clicks[18+b].Kind = api.Zero, api.Zero
			s, e := sift.Align(head, clicks, 1)
			wantOne(t, fmt.Sprint("the shifts ", a, " and ", b), s, e, a, api.OK)
		}
	}
}

// P4.1: where no agreement is 0 or greater, there is no shift.
func TestAgreementsBelowZero(t *testing.T) {
	head, clicks := make([]api.Pulse, 60), make([]api.Click, 60)
	for i := range head {
		head[i].Seen = true
		clicks[i] = wrongClickOf(head[i])
	}
	for shift, right := range map[int]int{0: -60, 1: -59, -1: -59, 16: -44, -16: -44} {
		n, e := sift.Agreement(head, clicks, shift)
		wantOne(t, fmt.Sprint("the shift ", shift), n, e, right, api.OK)
	}
	s, e := sift.Align(head, clicks, 0)
	wantOne(t, "all differ", s, e, 0, api.ErrSync)
	s, e = sift.Align(head[:1], clicks[:1], 0)
	wantOne(t, "one that differs", s, e, -1, api.OK)
}

// P4.1: nothing to align.
func TestEmptyFrames(t *testing.T) {
	head, clicks := randomPulses(newRand(), 9), randomClicks(newRand(), 9)
	for _, x := range []struct {
		head   []api.Pulse
		clicks []api.Click
	}{{nil, nil}, {[]api.Pulse{}, []api.Click{}}, {head, nil}, {nil, clicks}} {
		for shift := -16; shift <= 16; shift++ {
			n, e := sift.Agreement(x.head, x.clicks, shift)
			wantOne(t, "Agreement", n, e, 0, api.OK)
		}
		s, e := sift.Align(x.head, x.clicks, 0)
		wantOne(t, "Align with need 0", s, e, 0, api.OK)
		s, e = sift.Align(x.head, x.clicks, 1)
		wantOne(t, "Align with need 1", s, e, 0, api.ErrSync)
	}
}

// P4.1: errors, in their order, and the limits.
func TestFrameErrors(t *testing.T) {
	pulses, clicks := make([]api.Pulse, 4097), make([]api.Click, 4097)
	for i := range pulses {
		pulses[i].Seen, clicks[i].Kind = true, api.Zero
	}
	wrongPulse, wrongClick := slices.Concat(pulses[:5], wrongPulses()[:1]), slices.Concat(clicks[:5], wrongClicks()[:1])
	for _, n := range edgeInts {
		for _, p := range [][]api.Pulse{nil, pulses[:4096], pulses, wrongPulse, slices.Concat(pulses, wrongPulse)} {
			for _, c := range [][]api.Click{nil, clicks[:4096], clicks, wrongClick, slices.Concat(clicks, wrongClick)} {
				checkAgreement(t, p, c, n)
				checkAlign(t, p, c, n)
			}
		}
	}
	for _, p := range wrongPulses() {
		checkAgreement(t, []api.Pulse{{}, p}, nil, 0)
		checkAlign(t, []api.Pulse{{}, p}, nil, 0)
	}
	for _, c := range wrongClicks() {
		checkAgreement(t, nil, []api.Click{{}, c}, 0)
		checkAlign(t, nil, []api.Click{{}, c}, 0)
	}
	s, e := sift.Align(pulses[:4096], clicks[:4096], 4096)
	wantOne(t, "as many as there can be", s, e, 0, api.OK)
	s, e = sift.Align(pulses[:4095], clicks[:4096], 4096)
	wantOne(t, "one less", s, e, 0, api.ErrSync)
}

// P4.16.
func TestNoShiftIsBetter(t *testing.T) {
	r := newRand()
	for range 300 {
		head := randomPulses(r, r.IntN(60))
		clicks := shifted(head, r.IntN(33)-16, r.IntN(90), 1+r.IntN(5), clickOf, func() api.Click { return randomClicks(r, 1)[0] })
		best, e := sift.Align(head, clicks, 0)
		if e != api.OK {
			continue
		}
		most, _ := sift.Agreement(head, clicks, best)
		for _, shift := range theShifts {
			if n, _ := sift.Agreement(head, clicks, shift); n > most {
				t.Errorf("Align returned %d with %d, but %d has %d", best, most, shift, n)
			}
		}
	}
}

// The chapter's examples of frames.
func TestFrameExamples(t *testing.T) {
	head := []api.Pulse{{Basis: 0, Bit: true, Seen: true}, {Basis: 1, Bit: false, Seen: true}}
	clicks := []api.Click{{Basis: 0, Kind: api.One}, {Basis: 1, Kind: api.One}}
	for shift, right := range map[int]int{0: 0, 1: 0, -1: 0} {
		n, e := sift.Agreement(head, clicks, shift)
		wantOne(t, fmt.Sprint("the shift ", shift), n, e, right, api.OK)
	}
	clicks = []api.Click{{Basis: 1, Kind: api.Zero}, {Basis: 0, Kind: api.One}, {Basis: 1, Kind: api.Zero}}
	for shift, right := range map[int]int{0: 0, 1: 2} {
		n, e := sift.Agreement(head, clicks, shift)
		wantOne(t, fmt.Sprint("the shift ", shift), n, e, right, api.OK)
	}
	s, e := sift.Align(head, clicks, 2)
	wantOne(t, "need 2", s, e, 1, api.OK)
	s, e = sift.Align(head, clicks, 3)
	wantOne(t, "need 3", s, e, 0, api.ErrSync)
}
