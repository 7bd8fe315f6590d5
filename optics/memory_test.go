package optics_test

import (
	"slices"
	"testing"

	"waveplate/api"
	"waveplate/optics"
)

// lists are all arguments or results of a call that are lists.
type lists struct {
	rules  []api.Rule
	pulses []api.Pulse
	light  []api.Light
	notes  []api.Note
	clicks []api.Click
	slots  []int
	wrong  []int
}

func (l lists) copy() lists {
	return lists{slices.Clone(l.rules), slices.Clone(l.pulses), slices.Clone(l.light), slices.Clone(l.notes), slices.Clone(l.clicks), slices.Clone(l.slots), slices.Clone(l.wrong)}
}

func (l lists) same(m lists) bool {
	return slices.Equal(l.rules, m.rules) && slices.Equal(l.pulses, m.pulses) && slices.Equal(l.light, m.light) && slices.Equal(l.notes, m.notes) && slices.Equal(l.clicks, m.clicks) && slices.Equal(l.slots, m.slots) && slices.Equal(l.wrong, m.wrong)
}

// spare returns a list with elements beyond its end.
func spare[T any](l []T, filler T) []T {
	longer := append(slices.Clone(l), filler, filler, filler)
	return longer[:len(l)]
}

// withSpare returns copies with elements beyond the ends, all of which are valid or none of which are.
func (l lists) withSpare(n int) lists {
	return lists{spare(l.rules, api.Rule{Kind: n}), spare(l.pulses, api.Pulse{Basis: n}), spare(l.light, api.Light{Basis: n}), spare(l.notes, api.Note{How: n}), spare(l.clicks, api.Click{Basis: n}), nil, nil}
}

// whole returns the lists with what is beyond their ends.
func (l lists) whole() lists {
	return lists{l.rules[:cap(l.rules)], l.pulses[:cap(l.pulses)], l.light[:cap(l.light)], l.notes[:cap(l.notes)], l.clicks[:cap(l.clicks)], l.slots[:cap(l.slots)], l.wrong[:cap(l.wrong)]}
}

// wreck changes all elements of a list, up to its capacity.
func wreck[T any](l []T, filler T) {
	l = l[:cap(l)]
	for i := range l {
		l[i] = filler
	}
}

func (l lists) wreck() {
	wreck(l.rules, api.Rule{Kind: 77})
	wreck(l.pulses, api.Pulse{Basis: 77})
	wreck(l.light, api.Light{Basis: 77})
	wreck(l.notes, api.Note{Slot: 77})
	wreck(l.clicks, api.Click{Basis: 77})
	wreck(l.slots, 77)
	wreck(l.wrong, 77)
}

// listCall is a call with lists as arguments or results.
type listCall struct {
	name string
	call func(a lists) lists
}

func listCalls() []listCall {
	return []listCall{
		{"CheckRules", func(a lists) lists { return lists{slots: []int{int(optics.CheckRules(a.rules))}} }},
		{"Script", func(a lists) lists { s, _ := optics.Script(a.rules); return lists{slots: []int{len(s)}} }},
		{"Shift", func(a lists) lists { n, _ := optics.Shift(a.rules); return lists{slots: []int{n}} }},
		{"Rules", func(a lists) lists { l, _, _ := optics.Rules("loss 1\nsplit 1 2\n"); return lists{rules: l} }},
		{"Emit", func(a lists) lists { l, _ := optics.Emit(decoys(), 9, 1); return lists{pulses: l} }},
		{"Carry", func(a lists) lists {
			l, n, _ := optics.Carry(a.rules, a.pulses, 1)
			return lists{light: l, notes: n}
		}},
		{"Detect", func(a lists) lists { l, _ := optics.Detect(decoys(), a.light, 2, 1); return lists{clicks: l} }},
		{"Run", func(a lists) lists {
			f, _ := optics.Run(decoys(), a.rules, 20, [3]uint64{1, 2, 3})
			return lists{pulses: f.Pulses, clicks: f.Clicks, notes: f.Notes}
		}},
		{"Agree", func(a lists) lists {
			s, w, _ := optics.Agree(a.pulses, a.clicks, 1)
			return lists{slots: s, wrong: w}
		}},
		{"Knows", func(a lists) lists { l, _ := optics.Knows(a.pulses, a.notes); return lists{slots: l} }},
		{"Count", func(a lists) lists {
			k, _ := optics.Count(a.pulses)
			return lists{slots: slices.Concat(k[0][:], k[1][:], k[2][:])}
		}},
	}
}

// R5 and R10: a call neither depends on what is beyond the ends of its arguments nor changes them; its results share memory with nothing.
func TestMemory(t *testing.T) {
	r := newRand()
	args := lists{rules: channel(t, "loss 30\nearly 2\nresend 0 4095 100\nsplit 2 30\nblind 7 9 1 1\n"), pulses: randomPulses(r, 40), light: randomLight(r, 40), notes: randomNotes(r, 30, 40), clicks: randomClicks(r, 40)}
	for _, c := range listCalls() {
		right := c.call(args).copy()
		for _, n := range []int{1, 77} {
			with := args.withSpare(n)
			before := with.whole().copy()
			got := c.call(with)
			if !got.same(right) {
				t.Errorf("%s: %v, and with spare elements %v", c.name, right, got)
			}
			if !with.whole().same(before) {
				t.Errorf("%s changed an argument", c.name)
			}
			with.wreck()
			if !got.same(right) {
				t.Errorf("%s: a result shares memory with an argument", c.name)
			}
			again := c.call(args)
			if !again.same(right) {
				t.Errorf("%s: %v, and again %v", c.name, right, again)
			}
			again.wreck()
			if !got.same(right) || !c.call(args).same(right) {
				t.Errorf("%s: the results of two calls share memory", c.name)
			}
		}
	}
}

// R5: the lists of one result share no memory.
func TestResultsShareNoMemory(t *testing.T) {
	p, c := make([]api.Pulse, 9), make([]api.Click, 9)
	for i := range p {
		p[i].Seen, c[i].Kind = true, api.One
	}
	same, wrong, e := optics.Agree(p, c, 0)
	wreck(wrong, 77)
	want(t, "the slots that agree", same, e, []int{0, 1, 2, 3, 4, 5, 6, 7, 8}, api.OK)
}

// R3: a nil list is an empty one.
func TestNilIsEmpty(t *testing.T) {
	for _, p := range [][]api.Pulse{nil, {}} {
		for _, rules := range [][]api.Rule{nil, {}} {
			light, notes, e := optics.Carry(rules, p, 1)
			want(t, "light", light, e, nil, api.OK)
			want(t, "notes", notes, e, nil, api.OK)
		}
		for _, c := range [][]api.Click{nil, {}} {
			wantAgree(t, "nothing", p, c, 0, nil, nil, api.OK)
		}
		for _, n := range [][]api.Note{nil, {}} {
			known, e := optics.Knows(p, n)
			want(t, "Knows", known, e, nil, api.OK)
		}
		k, e := optics.Count(p)
		wantOne(t, "Count", k, e, [3][4]int{}, api.OK)
	}
	for _, l := range [][]api.Light{nil, {}} {
		c, e := optics.Detect(plain(), l, 16, 1)
		want(t, "Detect", c, e, nil, api.OK)
	}
	f, e := optics.Run(plain(), nil, 0, [3]uint64{})
	wantFlight(t, "Run of nothing", f, e, api.Flight{}, api.OK)
}
