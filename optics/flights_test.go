package optics_test

import (
	"fmt"
	"testing"

	"waveplate/api"
	"waveplate/optics"
)

// P3.7.
func TestRun(t *testing.T) {
	r := newRand()
	for range 800 {
		n := r.IntN(60)
		o, rules, s := randomOptics(r), randomRules(r, 8, n+1, allKinds...), [3]uint64{r.Uint64(), r.Uint64(), r.Uint64()}
		f, e := optics.Run(o, rules, n, s)
		wantFlight(t, fmt.Sprintf("Run of %v, %v, %d", o, rules, n), f, e, modelRun(o, rules, n, s), api.OK)
	}
	for _, o := range []api.Optics{plain(), decoys(), pairs()} {
		rules := channel(t, "early 16\nresend 0 4095 100\nsplit 0 4095\n")
		f, e := optics.Run(o, rules, 4096, [3]uint64{1, 1, 1})
		wantFlight(t, "Run of 4096", f, e, modelRun(o, rules, 4096, [3]uint64{1, 1, 1}), api.OK)
	}
}

// P3.7: errors, in their order.
func TestRunErrors(t *testing.T) {
	wrong := decoys()
	wrong.Classes[0]++
	two := []api.Rule{{Kind: api.RuleShift}, {Kind: api.RuleShift}}
	for _, n := range edgeInts {
		f, e := optics.Run(wrong, two, n, [3]uint64{})
		wantFlight(t, "no valid arrangement", f, e, api.Flight{}, api.ErrArg)
		f, e = optics.Run(plain(), two, n, [3]uint64{})
		wantFlight(t, "two shifts", f, e, api.Flight{}, api.ErrHave)
		f, e = optics.Run(plain(), make([]api.Rule, 33), n, [3]uint64{})
		wantFlight(t, "33 rules", f, e, api.Flight{}, api.ErrMany)
		f, e = optics.Run(plain(), two[:1], n, [3]uint64{})
		if n < 0 || n > 4096 {
			wantFlight(t, fmt.Sprint("n = ", n), f, e, api.Flight{}, api.ErrRange)
		} else if e != api.OK || len(f.Pulses) != n || len(f.Clicks) != n {
			t.Errorf("n = %d: %d pulses, %d clicks, %d", n, len(f.Pulses), len(f.Clicks), e)
		}
	}
}

// wantAgree fails unless Agree gives these slots and error.
func wantAgree(t *testing.T, what string, p []api.Pulse, c []api.Click, shift int, same, wrong []int, err api.Errno) {
	t.Helper()
	s, w, e := optics.Agree(p, c, shift)
	want(t, what+": the slots that agree", s, e, same, err)
	want(t, what+": the slots that differ", w, e, wrong, err)
}

// P3.8: any pulses and clicks.
func TestAgree(t *testing.T) {
	r := newRand()
	for range 1000 {
		p, c, shift := randomPulses(r, r.IntN(40)), randomClicks(r, r.IntN(40)), r.IntN(33)-16
		same, wrong := modelAgree(p, c, shift)
		wantAgree(t, fmt.Sprintf("%v, %v, %d", p, c, shift), p, c, shift, same, wrong, api.OK)
	}
	p, c := randomPulses(r, 4096), randomClicks(r, 4096)
	same, wrong := modelAgree(p, c, 16)
	wantAgree(t, "4096 slots", p, c, 16, same, wrong, api.OK)
}

// P3.8: a pulse and a click, of each sort.
func TestOneSlot(t *testing.T) {
	for i := range 1 << 5 {
		p := api.Pulse{Basis: i & 1, Bit: i>>1&1 == 1, Seen: i>>2&1 == 1}
		c := api.Click{Basis: i >> 3 & 1}
		for c.Kind = range 4 {
			for shift := -2; shift <= 2; shift++ {
				var same, wrong []int
				if shift == 1 && p.Seen && p.Basis == c.Basis && c.Kind%3 != 0 {
					same = []int{1}
					if p.Bit != (c.Kind == 2) {
						wrong = same
					}
				}
				wantAgree(t, fmt.Sprint(p, c, shift), []api.Pulse{{}, p}, []api.Click{{}, {}, c}, shift, same, wrong, api.OK)
			}
		}
	}
}

// wrongClicks returns one click for each fault of a click.
func wrongClicks() []api.Click {
	var l []api.Click
	for _, n := range edgeInts {
		if n != 0 && n != 1 {
			l = append(l, api.Click{Basis: n})
		}
		if n < 0 || n > 3 {
			l = append(l, api.Click{Kind: n})
		}
	}
	return l
}

// P3.8: errors.
func TestAgreeErrors(t *testing.T) {
	pulses, clicks := make([]api.Pulse, 4097), make([]api.Click, 4097)
	for _, shift := range edgeInts {
		err := api.ErrMany
		if shift < -16 || shift > 16 {
			err = api.ErrRange
			wantAgree(t, fmt.Sprint("shift ", shift), nil, nil, shift, nil, nil, err)
			wantAgree(t, fmt.Sprint("shift ", shift, " and a pulse"), wrongPulses()[:1], nil, shift, nil, nil, err)
		}
		wantAgree(t, "many pulses", pulses, nil, shift, nil, nil, err)
		wantAgree(t, "many clicks", nil, clicks, shift, nil, nil, err)
	}
	for _, p := range wrongPulses() {
		wantAgree(t, fmt.Sprint("the pulse ", p), []api.Pulse{{}, p}, nil, 0, nil, nil, api.ErrArg)
		wantAgree(t, "a pulse and many clicks", []api.Pulse{p}, clicks, 0, nil, nil, api.ErrMany)
	}
	for _, c := range wrongClicks() {
		wantAgree(t, fmt.Sprint("the click ", c), nil, []api.Click{{}, c}, 0, nil, nil, api.ErrArg)
		wantAgree(t, "a click and many pulses", pulses, []api.Click{c}, 0, nil, nil, api.ErrMany)
	}
	wantAgree(t, "as many as there can be", pulses[:4096], clicks[:4096], -16, nil, nil, api.OK)
}

// P3.9: Knows, for any notes.
func TestKnows(t *testing.T) {
	r := newRand()
	for range 1000 {
		n := 1 + r.IntN(40)
		p, notes := randomPulses(r, n), randomNotes(r, r.IntN(50), n)
		known, e := optics.Knows(p, notes)
		want(t, fmt.Sprint("Knows of ", notes), known, e, modelKnows(p, notes), api.OK)
	}
	for i := range 1 << 3 {
		p := []api.Pulse{{}, {Basis: i & 1, Bit: i>>1&1 == 1}}
		for how := 1; how <= 3; how++ {
			note := api.Note{Slot: 1, How: how, Basis: i >> 2 & 1, Bit: true}
			var right []int
			if how == api.Kept || note.Basis == p[1].Basis {
				right = []int{1}
			}
			known, e := optics.Knows(p, []api.Note{note})
			want(t, fmt.Sprint("Knows of ", note), known, e, right, api.OK)
			known, e = optics.Knows(p, []api.Note{note, note, {Slot: 0, How: api.Kept, Basis: 1}, note})
			want(t, fmt.Sprint("Knows of it, and of the slot 0"), known, e, append([]int{0}, right...), api.OK)
		}
	}
	for _, p := range [][]api.Pulse{nil, {}, {{}}} {
		known, e := optics.Knows(p, nil)
		want(t, "Knows of no notes", known, e, nil, api.OK)
	}
}

// P3.9: errors of Knows.
func TestKnowsErrors(t *testing.T) {
	fails := func(what string, p []api.Pulse, notes []api.Note, err api.Errno) {
		t.Helper()
		known, e := optics.Knows(p, notes)
		want(t, what, known, e, nil, err)
	}
	good := api.Note{How: api.Kept}
	for _, n := range edgeInts {
		if n < 1 || n > 3 {
			fails(fmt.Sprint("How ", n), make([]api.Pulse, 2), []api.Note{good, {How: n}}, api.ErrArg)
			fails(fmt.Sprint("How ", n, " and a slot"), make([]api.Pulse, 2), []api.Note{good, {How: n, Slot: 2}}, api.ErrArg)
		}
		if n != 0 && n != 1 {
			fails(fmt.Sprint("basis ", n), make([]api.Pulse, 2), []api.Note{good, {How: 1, Basis: n, Slot: -1}}, api.ErrArg)
			fails(fmt.Sprint("slot ", n), make([]api.Pulse, 2), []api.Note{good, {How: 3, Slot: n}}, api.ErrRange)
			fails(fmt.Sprint("slot ", n, " before How"), make([]api.Pulse, 2), []api.Note{{How: 3, Slot: n}, {}}, api.ErrRange)
			fails(fmt.Sprint("How before slot ", n), make([]api.Pulse, 2), []api.Note{{}, {How: 3, Slot: n}}, api.ErrArg)
		}
	}
	many := make([]api.Note, 131073)
	fails("many notes", make([]api.Pulse, 1), many, api.ErrMany)
	fails("as many notes as there can be, not valid", make([]api.Pulse, 1), many[1:], api.ErrArg)
	fails("no slots", nil, []api.Note{good}, api.ErrRange)
	for _, p := range wrongPulses() {
		fails(fmt.Sprint("the pulse ", p), []api.Pulse{{}, p}, many, api.ErrArg)
	}
	fails("many pulses", append(make([]api.Pulse, 4096), wrongPulses()[0]), many, api.ErrMany)
}

// P3.9: Count.
func TestCount(t *testing.T) {
	r := newRand()
	for _, n := range []int{0, 1, 10, 4096} {
		p := randomPulses(r, n)
		var right [3][4]int
		for class := range right {
			for photons := range right[class] {
				for _, x := range p {
					if x.Class == class && x.Photons == photons {
						right[class][photons]++
					}
				}
			}
		}
		k, e := optics.Count(p)
		wantOne(t, fmt.Sprintf("Count of %d", n), k, e, right, api.OK)
	}
	for _, p := range wrongPulses() {
		k, e := optics.Count([]api.Pulse{{}, p})
		wantOne(t, fmt.Sprint("Count of ", p), k, e, [3][4]int{}, api.ErrArg)
		k, e = optics.Count(append(make([]api.Pulse, 4096), p))
		wantOne(t, "Count of many", k, e, [3][4]int{}, api.ErrMany)
	}
}
