package optics_test

import (
	"fmt"
	"slices"
	"strings"
	"testing"

	"waveplate/api"
	"waveplate/optics"
)

var seeds = []uint64{0, 1, 5, 12345, 1 << 32, 1 << 63, 1<<64 - 1}

func parse(t *testing.T, s string) api.Optics {
	t.Helper()
	return done[api.Optics](t)(optics.Parse(s))
}

func channel(t *testing.T, s string) []api.Rule {
	t.Helper()
	l, n, e := optics.Rules(s)
	if e != api.OK {
		t.Fatalf("line %d of %q: %d", n, s, e)
	}
	return l
}

func digit(yes bool) int {
	if yes {
		return 1
	}
	return 0
}

// digits writes numbers as one word.
func digits(l ...int) string {
	var word strings.Builder
	for _, n := range l {
		fmt.Fprint(&word, n)
	}
	return word.String()
}

// told writes a list as words, one for each element.
func told[T any](l []T, word func(x T) string) string {
	var words []string
	for _, x := range l {
		words = append(words, word(x))
	}
	return strings.Join(words, " ")
}

// Flights that another program computed.
func TestKnownFlights(t *testing.T) {
	for _, x := range []struct {
		o, rules                     string
		seeds                        [3]uint64
		pulses, light, notes, clicks string
	}{
		{
			"decoy 50 70 136 256 0 0 0 150 60 30 16 60 80 60 56 180 40",
			"late 2\nnoise 60\nloss 40\nresend 2 6 200\nsplit 0 9\nstarve 1 12 100\nblind 5 6 1 1\nnoise 30\n",
			[3]uint64{11, 12, 13},
			"11231 00111 01101 00001 11111 00001 11211 10001 01001 11221 11211 10131 11121 00001 00221 10201",
			"2110 0000 0000 0000 0000 0111 0111 0000 0000 1110 1100 3100 1100 0000 1000 0000",
			"0:211 5:311 6:311 9:211",
			"10 00 13 00 01 01 10 00 12 13 12 01 11 03 01 12",
		},
		{
			"pairs 0 0 256 256 0 0 0 256 0 0 0 40 120 60 36 150 20",
			"early 1\nresend 0 4095 128\n",
			[3]uint64{1 << 63, 1<<64 - 1, 0},
			"00211 10210 00200 00230 01210 01211 01211 00221 00200 01200 01231 11221 11221 00200 01211 01221",
			"1110 1010 0000 1100 1010 1010 1010 1100 0000 0000 3010 1000 2110 0000 1010 1110",
			"0:111 1:101 3:110 4:101 7:110 11:100 15:111",
			"02 12 13 00 02 02 00 00 00 12 00 00 10 10 01 10",
		},
	} {
		o, rules := parse(t, x.o), channel(t, x.rules)
		f := done[api.Flight](t)(optics.Run(o, rules, 16, x.seeds))
		light, _, e := optics.Carry(rules, f.Pulses, x.seeds[1])
		wantOne(t, "pulses", told(f.Pulses, func(p api.Pulse) string {
			return digits(p.Basis, digit(p.Bit), p.Class, p.Photons, digit(p.Seen))
		}), api.OK, x.pulses, api.OK)
		wantOne(t, "light", told(light, func(l api.Light) string {
			return digits(l.Photons, l.Basis, digit(l.Bit), digit(l.Bright))
		}), e, x.light, api.OK)
		wantOne(t, "notes", told(f.Notes, func(n api.Note) string {
			return fmt.Sprint(n.Slot, ":", digits(n.How, n.Basis, digit(n.Bit)))
		}), api.OK, x.notes, api.OK)
		wantOne(t, "clicks", told(f.Clicks, func(c api.Click) string { return digits(c.Basis, c.Kind) }), api.OK, x.clicks, api.OK)
	}
}

// P3.4.
func TestEmit(t *testing.T) {
	r := newRand()
	for i := range 300 {
		o, seed := randomOptics(r), r.Uint64()
		if i < len(seeds) {
			o, seed = []api.Optics{plain(), decoys(), pairs()}[i%3], seeds[i]
		}
		for _, n := range []int{0, 1, 2, 77} {
			p, e := optics.Emit(o, n, seed)
			want(t, fmt.Sprintf("Emit of %v, %d, %d", o, n, seed), p, e, modelEmit(o, n, seed), api.OK)
		}
	}
	for _, o := range []api.Optics{plain(), decoys(), pairs()} {
		p, e := optics.Emit(o, 4096, 3)
		want(t, "Emit of 4096", p, e, modelEmit(o, 4096, 3), api.OK)
	}
}

// P3.4: errors.
func TestEmitErrors(t *testing.T) {
	wrong := plain()
	wrong.Dark = 257
	for _, n := range edgeInts {
		p, e := optics.Emit(wrong, n, 1)
		want(t, "Emit of no valid arrangement", p, e, nil, api.ErrArg)
		p, e = optics.Emit(decoys(), n, 1)
		if n < 0 || n > 4096 {
			want(t, fmt.Sprint("Emit of ", n), p, e, nil, api.ErrRange)
		} else if e != api.OK || len(p) != n {
			t.Errorf("Emit of %d: %d pulses, %d", n, len(p), e)
		}
	}
}

// P3.5: what each rule does to light with 0 to 3 photons, where chance has no part in it.
func TestRulesOfTheChannel(t *testing.T) {
	const kept = api.Kept
	for _, x := range []struct {
		rules   string
		photons [4]int // in the end, for each number of photons at first
		inverse bool
		notes   [4][]int // how, for each number of photons at first
	}{
		{"", [4]int{0, 1, 2, 3}, false, [4][]int{}},
		{"loss 0\n", [4]int{0, 1, 2, 3}, false, [4][]int{}},
		{"loss 256\n", [4]int{}, false, [4][]int{}},
		{"noise 0\n", [4]int{0, 1, 2, 3}, false, [4][]int{}},
		{"noise 256\n", [4]int{0, 1, 2, 3}, true, [4][]int{}},
		{"noise 256\nnoise 256\n", [4]int{0, 1, 2, 3}, false, [4][]int{}},
		{"late 16\n", [4]int{0, 1, 2, 3}, false, [4][]int{}},
		{"early 16\n", [4]int{0, 1, 2, 3}, false, [4][]int{}},
		{"resend 0 9 0\n", [4]int{0, 1, 2, 3}, false, [4][]int{}},
		{"split 0 9\n", [4]int{0, 1, 1, 2}, false, [4][]int{2: {kept}, 3: {kept}}},
		{"split 0 9\nsplit 1 1\n", [4]int{0, 1, 1, 1}, false, [4][]int{2: {kept}, 3: {kept, kept}}},
		{"split 2 9\nsplit 0 0\n", [4]int{0, 1, 2, 3}, false, [4][]int{}},
		{"starve 0 9 0\n", [4]int{0, 1, 2, 3}, false, [4][]int{}},
		{"starve 0 9 256\n", [4]int{0, 0, 2, 3}, false, [4][]int{}},
		{"split 0 9\nstarve 0 9 256\n", [4]int{0, 0, 0, 2}, false, [4][]int{2: {kept}, 3: {kept}}},
		{"starve 0 0 256\nstarve 2 2 256\n", [4]int{0, 1, 2, 3}, false, [4][]int{}},
		{"blind 0 0 1 1\nblind 2 4095 0 0\n", [4]int{0, 1, 2, 3}, false, [4][]int{}},
	} {
		for n := range 4 {
			for _, basis := range []int{0, 1} {
				for _, bit := range []bool{false, true} {
					// The slot 1 is looked at.
					p := []api.Pulse{{}, {Photons: n, Basis: basis, Bit: bit}, {}}
					light, notes, e := optics.Carry(channel(t, x.rules), p, 7)
					right := api.Light{Photons: x.photons[n]}
					if right.Photons > 0 {
						right.Basis, right.Bit = basis, bit != x.inverse
					}
					if e != api.OK || light[1] != right {
						t.Errorf("%q, %d photons: %v, %d, want %v", x.rules, n, light, e, right)
					}
					var noted []api.Note
					for _, how := range x.notes[n] {
						noted = append(noted, api.Note{Slot: 1, How: how, Basis: basis, Bit: bit})
					}
					want(t, fmt.Sprintf("%q, %d photons, notes", x.rules, n), slices.DeleteFunc(notes, func(n api.Note) bool { return n.Slot != 1 }), e, noted, api.OK)
				}
			}
		}
	}
}

// P3.5: a measured pulse has one photon, in the basis of the note; without photons nothing is measured.
func TestResend(t *testing.T) {
	rules := channel(t, "resend 0 4095 256\n")
	bases, bits := map[bool]int{}, map[bool]int{}
	for n := range 4 {
		p := slices.Repeat([]api.Pulse{{Photons: n, Basis: 1, Bit: true}}, 400)
		light, notes, e := optics.Carry(rules, p, uint64(n))
		if n == 0 {
			want(t, "notes of nothing", notes, e, nil, api.OK)
			continue
		}
		if e != api.OK || len(notes) != 400 {
			t.Fatalf("%d notes, %d", len(notes), e)
		}
		for i, x := range notes {
			if x.Slot != i || x.How != api.Measured || light[i] != (api.Light{Photons: 1, Basis: x.Basis, Bit: x.Bit}) {
				t.Errorf("%v, %v", x, light[i])
			}
			if x.Basis == 1 && !x.Bit {
				t.Errorf("another bit in the same basis: %v", x)
			}
			bases[x.Basis == 1]++
			if x.Basis == 0 {
				bits[x.Bit]++
			}
		}
	}
	for _, m := range []map[bool]int{bases, bits} {
		if m[false]*3 < m[true]*2 || m[true]*3 < m[false]*2 {
			t.Errorf("not about as often: %v", m)
		}
	}
}

// P3.5: bright light is not changed by other rules, and draws nothing; the last blind rule decides.
func TestBlind(t *testing.T) {
	others := "loss 256\nnoise 256\nlate 3\nresend 0 9 256\nsplit 0 9\nstarve 0 9 256\n"
	for n := range 4 {
		p := []api.Pulse{{Photons: n, Basis: 1, Bit: true}, {Photons: 3}, {Photons: 2, Basis: 1}}
		light, notes, e := optics.Carry(channel(t, "blind 0 0 0 1\n"+others), p, 3)
		rest, restNotes := modelCarry(channel(t, others), p[1:], 3)
		for i := range restNotes {
			restNotes[i].Slot++
		}
		want(t, "light", light, e, append([]api.Light{{Basis: 0, Bit: true, Bright: true}}, rest...), api.OK)
		want(t, "notes", notes, e, append([]api.Note{{How: api.Forced, Basis: 0, Bit: true}}, restNotes...), api.OK)
		light, notes, e = optics.Carry(channel(t, "blind 0 0 0 1\nblind 0 0 1 0\n"), p[:1], 3)
		want(t, "light", light, e, []api.Light{{Basis: 1, Bright: true}}, api.OK)
		want(t, "notes", notes, e, []api.Note{{How: api.Forced, Basis: 0, Bit: true}, {How: api.Forced, Basis: 1}}, api.OK)
	}
}

// P3.5: any channels and pulses.
func TestCarry(t *testing.T) {
	r := newRand()
	for range 1500 {
		n := 1 + r.IntN(40)
		rules, p, seed := randomRules(r, 12, n, allKinds...), randomPulses(r, n), r.Uint64()
		light, notes := modelCarry(rules, p, seed)
		what := fmt.Sprintf("Carry of %v, %d pulses, %d", rules, n, seed)
		for range 2 {
			l, x, e := optics.Carry(rules, p, seed)
			want(t, what+", light", l, e, light, api.OK)
			want(t, what+", notes", x, e, notes, api.OK)
			// The second time with other classes, and others that are seen.
			for i := range p {
				p[i].Class, p[i].Seen = r.IntN(3), r.IntN(2) == 1
			}
		}
	}
	rules, p := randomRules(r, 32, 4096, allKinds...), randomPulses(r, 4096)
	for i := range rules {
		rules[i].To = min(rules[i].To, 4095)
	}
	light, notes := modelCarry(rules, p, 1)
	l, x, e := optics.Carry(rules, p, 1)
	want(t, "Carry of 4096 pulses, light", l, e, light, api.OK)
	want(t, "Carry of 4096 pulses, notes", x, e, notes, api.OK)
}

// P3.5: as many notes as there can be.
func TestMostNotes(t *testing.T) {
	p := slices.Repeat([]api.Pulse{{Photons: 1}}, 4096)
	rules := slices.Repeat([]api.Rule{{Kind: api.RuleResend, To: 4095, A: 256}}, 32)
	_, notes, e := optics.Carry(rules, p, 1)
	if e != api.OK || len(notes) != 131072 {
		t.Fatalf("%d notes, %d", len(notes), e)
	}
	known := done[[]int](t)(optics.Knows(p, notes))
	want(t, "Knows", known, api.OK, modelKnows(p, notes), api.OK)
	known, e = optics.Knows(p, append(notes, notes[0]))
	want(t, "Knows of a note more", known, e, nil, api.ErrMany)
}

// wrongPulses returns one pulse for each fault of a pulse.
func wrongPulses() []api.Pulse {
	var l []api.Pulse
	for _, n := range edgeInts {
		if n != 0 && n != 1 {
			l = append(l, api.Pulse{Basis: n})
		}
		if n < 0 || n > 2 {
			l = append(l, api.Pulse{Class: n})
		}
		if n < 0 || n > 3 {
			l = append(l, api.Pulse{Photons: n})
		}
	}
	return l
}

// P3.5: errors.
func TestCarryErrors(t *testing.T) {
	fails := func(what string, rules []api.Rule, p []api.Pulse, err api.Errno) {
		t.Helper()
		light, notes, e := optics.Carry(rules, p, 1)
		want(t, what+", light", light, e, nil, err)
		want(t, what+", notes", notes, e, nil, err)
	}
	blind := channel(t, "blind 0 4095 0 0\n")
	many := make([]api.Pulse, 4097)
	for _, w := range wrongPulses() {
		fails(fmt.Sprint("the pulse ", w), blind, []api.Pulse{{}, {}, w}, api.ErrArg)
		fails("many", blind, append([]api.Pulse{w}, many...), api.ErrMany)
	}
	fails("many", nil, many, api.ErrMany)
	fails("a rule, and many", []api.Rule{{Kind: 9}}, many, api.ErrArg)
	fails("two shifts, and many", []api.Rule{{Kind: api.RuleShift}, {Kind: api.RuleShift}}, many, api.ErrHave)
	fails("many rules, and a pulse", make([]api.Rule, 33), wrongPulses()[:1], api.ErrMany)
	light, notes, e := optics.Carry(blind, many[:4096], 1)
	if e != api.OK || len(light) != 4096 || len(notes) != 4096 {
		t.Errorf("4096 pulses: %d, %d, %d", len(light), len(notes), e)
	}
}

// P3.6: any light and shifts.
func TestDetect(t *testing.T) {
	r := newRand()
	for range 1500 {
		o, l, shift, seed := randomOptics(r), randomLight(r, r.IntN(40)), r.IntN(33)-16, r.Uint64()
		clicks := modelDetect(o, l, shift, seed)
		c, e := optics.Detect(o, l, shift, seed)
		want(t, fmt.Sprintf("Detect of %v, %d, %d", l, shift, seed), c, e, clicks, api.OK)
		// Another arrangement with the same detectors, and other photons in bright light.
		other := decoys()
		other.Eta, other.Dark = o.Eta, o.Dark
		for i := range l {
			if l[i].Bright {
				l[i].Photons = r.IntN(4)
			}
		}
		c, e = optics.Detect(other, l, shift, seed)
		want(t, "Detect of another arrangement", c, e, clicks, api.OK)
	}
	l := randomLight(r, 4096)
	c, e := optics.Detect(decoys(), l, -16, 3)
	want(t, "Detect of 4096 slots", c, e, modelDetect(decoys(), l, -16, 3), api.OK)
}

// P3.6: where light arrives: index 0 in the slot shift, and nothing in slots without light.
func TestArrival(t *testing.T) {
	for shift := -16; shift <= 16; shift++ {
		for _, n := range []int{0, 1, 16, 17, 30} {
			l := make([]api.Light, n)
			for i := range l {
				l[i] = api.Light{Photons: 1, Basis: i % 2, Bit: i%3 == 0}
			}
			c := done[[]api.Click](t)(optics.Detect(plain(), l, shift, 9))
			if len(c) != n {
				t.Fatalf("%d clicks of %d", len(c), n)
			}
			for j, click := range c {
				i := j - shift
				if (click.Kind == api.Nothing) != (i < 0 || i >= n) || click.Kind == api.Both {
					t.Errorf("shift %d, %d slots, slot %d: %v", shift, n, j, click)
				} else if i >= 0 && i < n && click.Basis == l[i].Basis && (click.Kind == api.One) != l[i].Bit {
					t.Errorf("shift %d, %d slots, slot %d: %v", shift, n, j, click)
				}
			}
		}
	}
}

// P3.6: detectors that always fire by themselves, or never fire.
func TestDetectors(t *testing.T) {
	always, never := plain(), plain()
	always.Dark = 256
	never.Eta = 0
	l := []api.Light{{}, {Photons: 3}, {Photons: 1, Basis: 1, Bit: true}, {Bright: true, Bit: true}, {Bright: true, Basis: 1, Photons: 3}}
	for _, seed := range seeds {
		for i, c := range done[[]api.Click](t)(optics.Detect(always, l, 0, seed)) {
			if !l[i].Bright && c.Kind != api.Both {
				t.Errorf("Dark 256: %v", c)
			}
		}
		for i, c := range done[[]api.Click](t)(optics.Detect(never, l, 0, seed)) {
			right := api.Nothing
			if l[i].Bright && l[i].Basis == c.Basis {
				right = api.Zero + digit(l[i].Bit)
			}
			if c.Kind != right {
				t.Errorf("Eta 0, %v: %v", l[i], c)
			}
		}
	}
}

// P3.6: errors.
func TestDetectErrors(t *testing.T) {
	wrong := plain()
	wrong.Photons[api.Vacuum] = [4]int{255, 1}
	many := make([]api.Light, 4097)
	var faults []api.Light
	for _, n := range edgeInts {
		if n != 0 && n != 1 {
			faults = append(faults, api.Light{Basis: n}, api.Light{Basis: n, Bright: true})
		}
		if n < 0 || n > 3 {
			faults = append(faults, api.Light{Photons: n}, api.Light{Photons: n, Bright: true})
		}
	}
	fails := func(what string, o api.Optics, l []api.Light, shift int, err api.Errno) {
		t.Helper()
		c, e := optics.Detect(o, l, shift, 1)
		want(t, what, c, e, nil, err)
	}
	for _, shift := range edgeInts {
		fails("no valid arrangement", wrong, many, shift, api.ErrArg)
		err := api.ErrMany
		if shift < -16 || shift > 16 {
			err = api.ErrRange
			fails(fmt.Sprint("shift ", shift), plain(), nil, shift, err)
			fails(fmt.Sprint("shift ", shift, " and light"), plain(), faults[:1], shift, err)
		}
		fails(fmt.Sprint("many, shift ", shift), plain(), many, shift, err)
	}
	for _, x := range faults {
		fails(fmt.Sprint("the light ", x), plain(), []api.Light{{}, x, {}}, 0, api.ErrArg)
		fails("many, and light", plain(), append([]api.Light{x}, many...), 0, api.ErrMany)
	}
	c, e := optics.Detect(plain(), many[:4096], 16, 1)
	if e != api.OK || len(c) != 4096 {
		t.Errorf("4096 slots: %d, %d", len(c), e)
	}
}

// The chapter's examples of light.
func TestLightExamples(t *testing.T) {
	one := []api.Pulse{{Photons: 3, Basis: 1, Bit: true}}
	for _, p := range [][]api.Pulse{{{}}, {{Photons: 2}}, one} {
		l, notes, e := optics.Carry(channel(t, "blind 0 0 1 1\n"), p, 1)
		want(t, "blind", l, e, []api.Light{{Basis: 1, Bit: true, Bright: true}}, api.OK)
		want(t, "blind, notes", notes, e, []api.Note{{Slot: 0, How: api.Forced, Basis: 1, Bit: true}}, api.OK)
	}
	l, notes, e := optics.Carry(channel(t, "loss 256\n"), randomPulses(newRand(), 50), 1)
	want(t, "loss 256", l, e, make([]api.Light, 50), api.OK)
	want(t, "loss 256, notes", notes, e, nil, api.OK)
	l, notes, e = optics.Carry(channel(t, "split 0 0\n"), one, 1)
	want(t, "split", l, e, []api.Light{{Photons: 2, Basis: 1, Bit: true}}, api.OK)
	want(t, "split, notes", notes, e, []api.Note{{Slot: 0, How: api.Kept, Basis: 1, Bit: true}}, api.OK)
	p, e := optics.Emit(plain(), 4097, 1)
	want(t, "Emit", p, e, nil, api.ErrRange)
	c, e := optics.Detect(plain(), nil, 17, 1)
	want(t, "Detect", c, e, nil, api.ErrRange)
}
