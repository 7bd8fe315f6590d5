package sift_test

import (
	"math/big"
	"regexp"
	"slices"
	"strconv"
	"strings"

	"waveplate/algebra"
	"waveplate/api"
	"waveplate/exact"
	"waveplate/optics"
)

// This file writes the chapter a second time, without the package.

// firstOf returns the first error.
func firstOf(l ...api.Errno) api.Errno {
	for _, e := range l {
		if e != api.OK {
			return e
		}
	}
	return api.OK
}

// unless returns an error if something does not hold.
func unless(holds bool, e api.Errno) api.Errno {
	if holds {
		return api.OK
	}
	return e
}

// in reports whether n is from a to b.
func in(n, a, b int) bool { return a <= n && n <= b }

func modelPulses(l []api.Pulse) api.Errno {
	wrong := slices.ContainsFunc(l, func(p api.Pulse) bool {
		return !in(p.Basis, 0, 1) || !in(p.Class, 0, 2) || !in(p.Photons, 0, 3)
	})
	return firstOf(unless(len(l) <= 4096, api.ErrMany), unless(!wrong, api.ErrArg))
}

func modelClicks(l []api.Click) api.Errno {
	wrong := slices.ContainsFunc(l, func(c api.Click) bool { return !in(c.Basis, 0, 1) || !in(c.Kind, 0, 3) })
	return firstOf(unless(len(l) <= 4096, api.ErrMany), unless(!wrong, api.ErrArg))
}

// modelSlots returns the error of slots, of which those from first to last exist.
func modelSlots(l []int, first, last int) api.Errno {
	for i, slot := range l {
		if !in(slot, first, last) {
			return api.ErrRange
		}
		if i > 0 && l[i-1] >= slot {
			return api.ErrForm
		}
	}
	return api.OK
}

func modelHeard(l []api.Heard, first, last int) api.Errno {
	for i, h := range l {
		if !in(h.Slot, first, last) {
			return api.ErrRange
		}
		if !in(h.Basis, 0, 1) {
			return api.ErrArg
		}
		if i > 0 && l[i-1].Slot >= h.Slot {
			return api.ErrForm
		}
	}
	return api.OK
}

func modelAgreement(head []api.Pulse, clicks []api.Click, shift int) (int, api.Errno) {
	if e := firstOf(modelPulses(head), modelClicks(clicks), unless(in(shift, -16, 16), api.ErrRange)); e != api.OK {
		return 0, e
	}
	good, bad := 0, 0
	for j, c := range clicks {
		i := j - shift
		if !in(i, 0, len(head)-1) || !head[i].Seen || head[i].Basis != c.Basis {
			continue
		}
		switch {
		case c.Kind == api.Zero && head[i].Bit, c.Kind == api.One && !head[i].Bit:
			bad++
		case c.Kind == api.Zero, c.Kind == api.One:
			good++
		}
	}
	return good - bad, api.OK
}

// theShifts are all shifts, in their order.
var theShifts = []int{0, -1, 1, -2, 2, -3, 3, -4, 4, -5, 5, -6, 6, -7, 7, -8, 8, -9, 9, -10, 10, -11, 11, -12, 12, -13, 13, -14, 14, -15, 15, -16, 16}

func modelAlign(head []api.Pulse, clicks []api.Click, need int) (int, api.Errno) {
	if e := firstOf(modelPulses(head), modelClicks(clicks), unless(in(need, 0, 4096), api.ErrRange)); e != api.OK {
		return 0, e
	}
	var all []int
	for _, shift := range theShifts {
		n, _ := modelAgreement(head, clicks, shift)
		all = append(all, n)
	}
	if slices.Max(all) < need {
		return 0, api.ErrSync
	}
	return theShifts[slices.Index(all, slices.Max(all))], api.OK
}

func modelAnnounce(clicks []api.Click, shift, from, to int) ([]api.Heard, api.Errno) {
	if e := firstOf(modelClicks(clicks), unless(in(shift, -16, 16) && in(to, 0, 4096) && in(from, 0, to), api.ErrRange)); e != api.OK {
		return nil, e
	}
	var l []api.Heard
	for j, c := range clicks {
		if in(j-shift, from, to-1) && (c.Kind == 1 || c.Kind == 2) {
			l = append(l, api.Heard{Slot: j - shift, Basis: c.Basis})
		}
	}
	return l, api.OK
}

func modelText(l []api.Heard) (string, api.Errno) {
	if e := firstOf(unless(len(l) <= 4096, api.ErrMany), modelHeard(l, 0, 4095)); e != api.OK {
		return "", e
	}
	s := ""
	for _, h := range l {
		s += strconv.Itoa(h.Slot) + []string{" 0", " 1"}[h.Basis] + "\n"
	}
	return s, api.OK
}

var heardLines = regexp.MustCompile(`\A((0|[1-9][0-9]{0,3}) [01]\n)*\z`)

func modelParse(s string) ([]api.Heard, api.Errno) {
	if e := firstOf(unless(len(s) <= 65536, api.ErrLong), unless(heardLines.MatchString(s), api.ErrForm)); e != api.OK {
		return nil, e
	}
	var l []api.Heard
	words := strings.Fields(s)
	for i := 0; i < len(words); i += 2 {
		slot, _ := strconv.Atoi(words[i])
		l = append(l, api.Heard{Slot: slot, Basis: int(words[i+1][0] - '0')})
	}
	if modelHeard(l, 0, 4095) != api.OK {
		return nil, api.ErrForm
	}
	return l, api.OK
}

func modelMatch(p []api.Pulse, l []api.Heard, from int) ([]int, api.Errno) {
	if e := firstOf(modelPulses(p), unless(in(from, 0, 4096), api.ErrRange), modelHeard(l, from, len(p)-1)); e != api.OK {
		return nil, e
	}
	var kept []int
	for i := range p {
		if p[i].Seen && slices.Contains(l, api.Heard{Slot: i, Basis: p[i].Basis}) {
			kept = append(kept, i)
		}
	}
	return kept, api.OK
}

func modelClass(p []api.Pulse, slots []int, class int) ([]int, api.Errno) {
	if e := firstOf(modelPulses(p), unless(in(class, 0, 2), api.ErrArg), modelSlots(slots, 0, len(p)-1)); e != api.OK {
		return nil, e
	}
	return slices.DeleteFunc(slices.Clone(slots), func(slot int) bool { return p[slot].Class != class }), api.OK
}

func modelSent(p []api.Pulse, slots []int) ([]bool, api.Errno) {
	if e := firstOf(modelPulses(p), modelSlots(slots, 0, len(p)-1)); e != api.OK {
		return nil, e
	}
	var b []bool
	for _, slot := range slots {
		b = append(b, p[slot].Bit)
	}
	return b, api.OK
}

func modelReceived(c []api.Click, shift int, slots []int) ([]bool, api.Errno) {
	e := firstOf(modelClicks(c), unless(in(shift, -16, 16), api.ErrRange))
	if e != api.OK {
		return nil, e
	}
	e = modelSlots(slots, max(0, -shift), len(c)-1-shift)
	if e != api.OK {
		return nil, e
	}
	var b []bool
	for _, slot := range slots {
		switch c[slot+shift].Kind {
		case api.Zero:
			b = append(b, false)
		case api.One:
			b = append(b, true)
		default:
			return nil, api.ErrNone
		}
	}
	return b, api.OK
}

func modelKnown(p []api.Pulse, notes []api.Note, slots []int) (int, api.Errno) {
	if e := firstOf(modelPulses(p), modelSlots(slots, 0, len(p)-1)); e != api.OK {
		return 0, e
	}
	if _, e := optics.Knows(p, notes); e != api.OK {
		return 0, e
	}
	n := 0
	for _, slot := range slots {
		if slices.ContainsFunc(notes, func(x api.Note) bool {
			return x.Slot == slot && (x.How == api.Kept || x.Basis == p[slot].Basis)
		}) {
			n++
		}
	}
	return n, api.OK
}

func modelGains(p []api.Pulse, kept []int, b []bool, from int) ([3]api.Gain, api.Errno) {
	late := !slices.ContainsFunc(kept, func(slot int) bool { return slot < from })
	e := firstOf(modelPulses(p), unless(in(from, 0, 4096), api.ErrRange), modelSlots(kept, 0, len(p)-1), unless(late, api.ErrRange), unless(len(b) == len(kept), api.ErrEqual))
	if e != api.OK {
		return [3]api.Gain{}, e
	}
	var sent, heard, wrong [3]int
	for i, x := range p {
		if i >= from && x.Seen {
			sent[x.Class]++
		}
		at := slices.Index(kept, i)
		if at < 0 {
			continue
		}
		if !x.Seen {
			return [3]api.Gain{}, api.ErrState
		}
		heard[x.Class]++
		if b[at] != x.Bit {
			wrong[x.Class]++
		}
	}
	var g [3]api.Gain
	for i := range g {
		g[i] = api.Gain{Sent: sent[i], Heard: heard[i], Wrong: wrong[i]}
	}
	return g, api.OK
}

func modelSuits(o api.Optics) api.Errno {
	if e := optics.Check(o); e != api.OK {
		return e
	}
	w, s := o.Photons[1], o.Photons[2]
	return firstOf(unless(o.Kind == api.Decoy, api.ErrArg), unless(s[2]*w[1] > w[2]*s[1] && s[2]*w[3] <= w[2]*s[3], api.ErrState))
}

func modelDecoys(o api.Optics, g [3]api.Gain) api.Errno {
	valid, some := true, true
	for _, x := range g {
		valid = valid && 0 <= x.Wrong && x.Wrong <= x.Heard && x.Heard <= x.Sent && x.Sent <= 4096
		some = some && x.Sent != 0
	}
	return firstOf(modelSuits(o), unless(valid, api.ErrArg), unless(some, api.ErrNone))
}

// between brings a number into the range from 0 to 1.
func between(x *big.Rat) *big.Rat {
	one := big.NewRat(1, 1)
	switch {
	case x.Sign() < 0:
		return new(big.Rat)
	case x.Cmp(one) > 0:
		return one
	}
	return x
}

// linear returns the sum of products, divided.
func linear(den int, factors []int, l []*big.Rat) *big.Rat {
	sum := new(big.Rat)
	for i, f := range factors {
		sum.Add(sum, new(big.Rat).Mul(big.NewRat(int64(f), 1), l[i]))
	}
	return sum.Quo(sum, big.NewRat(int64(den), 1))
}

func modelYield(o api.Optics, g [3]api.Gain) *big.Rat {
	w, s := o.Photons[1], o.Photons[2]
	var q []*big.Rat
	for _, x := range g {
		q = append(q, big.NewRat(int64(x.Heard), int64(x.Sent)))
	}
	return between(linear(s[2]*w[1]-w[2]*s[1], []int{-(s[2]*w[0] - w[2]*s[0]), 256 * s[2], -256 * w[2]}, q))
}

func modelFaults(o api.Optics, g [3]api.Gain) *big.Rat {
	w := o.Photons[1]
	var l []*big.Rat
	for _, x := range g {
		l = append(l, big.NewRat(int64(x.Wrong), int64(x.Sent)))
	}
	return between(linear(w[1], []int{-w[0], 256, 0}, l))
}

func modelSingles(o api.Optics, g [3]api.Gain, n int) int {
	s := g[2]
	if s.Heard == 0 {
		return 0
	}
	x := linear(256*s.Heard, []int{n * o.Photons[2][1] * s.Sent}, []*big.Rat{modelYield(o, g)})
	whole := new(big.Int).Quo(x.Num(), x.Denom())
	if whole.Cmp(big.NewInt(int64(n))) > 0 {
		return n
	}
	return int(whole.Int64())
}

func modelSample(n, k int, seed uint64) ([]int, []int, api.Errno) {
	if !in(n, 0, 512) || !in(k, 0, n) {
		return nil, nil, api.ErrRange
	}
	l, e := algebra.New(seed).Sample(n, k)
	var rest []int
	for i := range n {
		if !slices.Contains(l, i) {
			rest = append(rest, i)
		}
	}
	return l, rest, e
}

func modelRate(total, sample, seen int, eps api.Frac) (api.Estimate, api.Errno) {
	bad, e := exact.Bound(total, sample, seen, eps)
	if e != api.OK {
		return api.Estimate{}, e
	}
	return api.Estimate{Total: total, Sample: sample, Seen: seen, Bad: bad, Rest: bad - seen}, api.OK
}

func modelJudge(sample, seen int, limit api.Frac) api.Errno {
	if e := firstOf(exact.CheckFrac(limit), unless(in(sample, 0, 512) && in(seen, 0, sample), api.ErrRange)); e != api.OK {
		return e
	}
	most := new(big.Rat).Mul(toRat(limit), big.NewRat(int64(sample), 1))
	return unless(big.NewRat(int64(seen), 1).Cmp(most) <= 0, api.ErrNoise)
}

func modelTest(a, b []bool, k int, seed uint64, eps, limit api.Frac) (api.Estimate, []bool, []bool, api.Errno) {
	if len(a) != len(b) {
		return api.Estimate{}, nil, nil, api.ErrEqual
	}
	l, rest, e := modelSample(len(a), k, seed)
	if e != api.OK {
		return api.Estimate{}, nil, nil, e
	}
	seen := 0
	for _, i := range l {
		if a[i] != b[i] {
			seen++
		}
	}
	x, e := modelRate(len(a), k, seen, eps)
	if e := firstOf(e, modelJudge(k, seen, limit)); e != api.OK {
		return api.Estimate{}, nil, nil, e
	}
	var c, d []bool
	for _, i := range rest {
		c, d = append(c, a[i]), append(d, b[i])
	}
	return x, c, d, api.OK
}
