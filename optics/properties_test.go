package optics_test

import (
	"fmt"
	"slices"
	"testing"

	"waveplate/api"
	"waveplate/optics"
)

// transmission runs a whole transmission, and returns with it the slots that agree and differ.
func transmission(t *testing.T, o api.Optics, rules []api.Rule, n int, s [3]uint64) (f api.Flight, same, wrong []int) {
	t.Helper()
	f = done[api.Flight](t)(optics.Run(o, rules, n, s))
	same, wrong, e := optics.Agree(f.Pulses, f.Clicks, f.Shift)
	if e != api.OK {
		t.Fatalf("Agree: %d", e)
	}
	return f, same, wrong
}

// P3.10: without an eavesdropper, losses and noise just the slots with equal bases agree.
func TestHonest(t *testing.T) {
	for seed := range uint64(50) {
		f, same, wrong := transmission(t, plain(), nil, 300, [3]uint64{seed, seed + 1, seed * 3})
		var right []int
		for i, p := range f.Pulses {
			if p.Basis == f.Clicks[i].Basis {
				right = append(right, i)
			}
		}
		want(t, "the slots that agree", same, api.OK, right, api.OK)
		want(t, "the slots that differ", wrong, api.OK, nil, api.OK)
		if len(same) < 100 || len(same) > 200 {
			t.Errorf("%d of 300 slots agree", len(same))
		}
	}
}

// P3.11: who measures makes errors only where her basis is another one.
func TestMeasuring(t *testing.T) {
	r := newRand()
	differed, guessed := 0, 0
	for range 400 {
		o := randomOptics(r)
		o.Dark = 0
		rules := randomRules(r, 6, 60, api.RuleResend, api.RuleLoss, api.RuleSplit)
		f, _, wrong := transmission(t, o, rules, 60, [3]uint64{r.Uint64(), r.Uint64(), r.Uint64()})
		for _, slot := range wrong {
			differed++
			if !slices.ContainsFunc(f.Notes, func(n api.Note) bool {
				return n.Slot == slot && n.How == api.Measured && n.Basis != f.Pulses[slot].Basis
			}) {
				t.Errorf("%v: the slot %d differs", rules, slot)
			}
		}
		for slot, p := range f.Pulses {
			all := slices.DeleteFunc(slices.Clone(f.Notes), func(n api.Note) bool { return n.Slot != slot })
			if slices.ContainsFunc(all, func(n api.Note) bool { return n.Basis != p.Basis }) {
				continue
			}
			for _, n := range all {
				guessed++
				if n.Bit != p.Bit {
					t.Errorf("%v: %v of %v", rules, n, p)
				}
			}
			if slices.Contains(wrong, slot) {
				t.Errorf("%v: the slot %d shows that she knows it", rules, slot)
			}
		}
	}
	if differed == 0 || guessed == 0 {
		t.Errorf("%d differed, %d guessed", differed, guessed)
	}
}

// P3.12: who keeps photons makes no errors.
func TestKeeping(t *testing.T) {
	r := newRand()
	some := 0
	for range 400 {
		o := randomOptics(r)
		o.Dark = 0
		rules := randomRules(r, 6, 60, api.RuleSplit, api.RuleStarve)
		f, _, wrong := transmission(t, o, rules, 60, [3]uint64{r.Uint64(), r.Uint64(), r.Uint64()})
		want(t, fmt.Sprint(rules, ", the slots that differ"), wrong, api.OK, nil, api.OK)
		var right []int
		for slot, p := range f.Pulses {
			if p.Photons >= 2 && slices.ContainsFunc(rules, func(x api.Rule) bool {
				return x.Kind == api.RuleSplit && slot >= x.From && slot <= x.To
			}) {
				right = append(right, slot)
			}
		}
		some += len(right)
		known := done[[]int](t)(optics.Knows(f.Pulses, f.Notes))
		want(t, fmt.Sprint(rules, ", what she knows"), known, api.OK, right, api.OK)
	}
	if some == 0 {
		t.Error("nothing was kept")
	}
}

// P3.13: the last blind rule of a slot decides what the receiver sees.
func TestForcing(t *testing.T) {
	r := newRand()
	saw, missed := 0, 0
	for range 400 {
		rules := randomRules(r, 10, 60, allKinds...)
		f, _, _ := transmission(t, randomOptics(r), rules, 60, [3]uint64{r.Uint64(), r.Uint64(), r.Uint64()})
		for slot := range f.Pulses {
			last := -1
			for i, x := range rules {
				if x.Kind == api.RuleBlind && slot >= x.From && slot <= x.To {
					last = i
				}
			}
			j := slot + f.Shift
			if last < 0 || j < 0 || j >= len(f.Clicks) {
				continue
			}
			right := api.Nothing
			if f.Clicks[j].Basis == rules[last].A {
				right = []int{api.Zero, api.One}[rules[last].B]
				saw++
			} else {
				missed++
			}
			if f.Clicks[j].Kind != right {
				t.Errorf("%v: in the slot %d the receiver sees %v", rules, slot, f.Clicks[j])
			}
		}
	}
	if saw == 0 || missed == 0 {
		t.Errorf("%d saw, %d missed", saw, missed)
	}
}

// P3.14: the basis and the bit of a pulse without photons do not matter.
func TestNothing(t *testing.T) {
	r := newRand()
	for range 400 {
		rules, p, seed := randomRules(r, 10, 40, allKinds...), randomPulses(r, 40), r.Uint64()
		light, notes, e := optics.Carry(rules, p, seed)
		for i := range p {
			if p[i].Photons == 0 {
				p[i].Basis, p[i].Bit = r.IntN(2), r.IntN(2) == 1
			}
		}
		l, n, e2 := optics.Carry(rules, p, seed)
		want(t, fmt.Sprint(rules, ", light"), l, e2, light, e)
		want(t, fmt.Sprint(rules, ", notes"), n, e2, notes, e)
	}
}

// P3.15: what fewer slots give is the beginning of what more of them give.
func TestBeginnings(t *testing.T) {
	r := newRand()
	for range 300 {
		o, rules, s := randomOptics(r), randomRules(r, 10, 40, allKinds...), [3]uint64{r.Uint64(), r.Uint64(), r.Uint64()}
		p := done[[]api.Pulse](t)(optics.Emit(o, 40, s[0]))
		light, notes, _ := optics.Carry(rules, p, s[1])
		clicks := done[[]api.Click](t)(optics.Detect(o, light, 0, s[2]))
		n := r.IntN(41)
		first, e := optics.Emit(o, n, s[0])
		want(t, "pulses", first, e, p[:n], api.OK)
		l, x, e := optics.Carry(rules, first, s[1])
		want(t, "light", l, e, light[:n], api.OK)
		inside := slices.DeleteFunc(slices.Clone(notes), func(x api.Note) bool { return x.Slot >= n })
		want(t, "notes", x, e, inside, api.OK)
		want(t, "notes in order", inside, e, notes[:len(inside)], api.OK)
		c, e := optics.Detect(o, l, 0, s[2])
		want(t, "clicks", c, e, clicks[:n], api.OK)
	}
}

// Examples 3 to 5 of the whole document, as far as they are those of light.
func TestWhatShows(t *testing.T) {
	n := 4096
	_, same, _ := transmission(t, plain(), nil, n, [3]uint64{1, 2, 3})
	if len(same) < 1900 || len(same) > 2200 {
		t.Errorf("%d of %d slots agree", len(same), n)
	}
	_, same, wrong := transmission(t, plain(), channel(t, "resend 0 4095 256\n"), n, [3]uint64{1, 2, 3})
	if 5*len(wrong) < len(same) || 3*len(wrong) > len(same) {
		t.Errorf("%d of %d slots differ", len(wrong), len(same))
	}
	many := plain()
	many.Photons[api.Signal] = [4]int{0, 128, 128}
	f, _, wrong := transmission(t, many, channel(t, "split 0 4095\n"), n, [3]uint64{1, 2, 3})
	if known := done[[]int](t)(optics.Knows(f.Pulses, f.Notes)); len(known) < 1900 || len(wrong) != 0 {
		t.Errorf("she knows %d, %d differ", len(known), len(wrong))
	}
}
