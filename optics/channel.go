package optics

import "waveplate/api"

// listener gets to know what the eavesdropper notes.
type listener interface {
	hear(n api.Note)
}

// notebook is a listener that keeps all notes.
type notebook struct {
	notes []api.Note
}

func (b *notebook) hear(n api.Note) { b.notes = append(b.notes, n) }

// crossing is the light of one slot on its way through a channel.
type crossing struct {
	slot  int
	light api.Light
	dice  dice
	ear   listener
}

// note says how the eavesdropper got to know the basis and the bit that the light has now.
func (c *crossing) note(how int) {
	c.ear.hear(api.Note{Slot: c.slot, How: how, Basis: c.light.Basis, Bit: c.light.Bit})
}

// Carry returns what arrives of pulses, and what the eavesdropper notes.
func Carry(l []api.Rule, p []api.Pulse, seed uint64) ([]api.Light, []api.Note, api.Errno) {
	if e := CheckRules(l); e != api.OK {
		return nil, nil, e
	}
	if e := checkPulses(p); e != api.OK {
		return nil, nil, e
	}
	steps := actions(l)
	var book notebook
	d := newDice(seed)
	light := make([]api.Light, len(p))
	for slot, pulse := range p {
		c := crossing{slot, lightOf(pulse), d, &book}
		for _, step := range steps {
			step(&c)
		}
		light[slot] = c.arriving()
	}
	return light, book.notes, api.OK
}

// actions returns what the rules of a channel do, in order.
func actions(l []api.Rule) []func(c *crossing) {
	var steps []func(c *crossing)
	for _, r := range l {
		k, _ := kindOf(r) // the rule is valid
		steps = append(steps, func(c *crossing) { k.act(c, r) })
	}
	return steps
}

// lightOf returns the light of a pulse.
func lightOf(p api.Pulse) api.Light {
	return api.Light{Photons: p.Photons, Basis: p.Basis, Bit: p.Bit}
}

// arriving returns the light as it leaves the channel: where there is none, it has no basis and no bit either.
func (c *crossing) arriving() api.Light {
	if !c.light.Bright && c.light.Photons == 0 {
		return api.Light{}
	}
	return c.light
}

// within returns an action in the slots of the rule alone.
func within(act func(c *crossing, r api.Rule)) func(c *crossing, r api.Rule) {
	return func(c *crossing, r api.Rule) {
		if c.slot >= r.From && c.slot <= r.To {
			act(c, r)
		}
	}
}

// photons returns an action on light alone that is not bright, and has so many photons.
func photons(least, most int, act func(c *crossing, r api.Rule)) func(c *crossing, r api.Rule) {
	return func(c *crossing, r api.Rule) {
		if n := c.light.Photons; !c.light.Bright && n >= least && n <= most {
			act(c, r)
		}
	}
}

// pass is for rules that do not change light.
func pass(c *crossing, r api.Rule) {}

func lose(c *crossing, r api.Rule) {
	left := 0
	for range c.light.Photons {
		if !c.dice.hits(r.A) {
			left++
		}
	}
	c.light.Photons = left
}

func disturb(c *crossing, r api.Rule) {
	if c.dice.hits(r.A) {
		c.light.Bit = !c.light.Bit
	}
}

func resend(c *crossing, r api.Rule) {
	if !c.dice.hits(r.A) {
		return
	}
	basis := c.dice.basis()
	bit := c.dice.measure(c.light, basis)
	c.light = api.Light{Photons: 1, Basis: basis, Bit: bit}
	c.note(api.Measured)
}

func split(c *crossing, r api.Rule) {
	c.light.Photons--
	c.note(api.Kept)
}

func blind(c *crossing, r api.Rule) {
	c.light = api.Light{Basis: r.A, Bit: r.B == 1, Bright: true}
	c.note(api.Forced)
}
