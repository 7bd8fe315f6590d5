package optics

import (
	"waveplate/algebra"
	"waveplate/api"
)

// whole is the sum of the weights of a choice, and the part of 256 that is certain.
const whole = 256

// dice draw what is left to chance.
type dice struct {
	draws *algebra.Draws
}

func newDice(seed uint64) dice { return dice{algebra.New(seed)} }

// below draws a number from 0 to n - 1. Without an n below 1 there is no error.
func (d dice) below(n int) int {
	x, _ := d.draws.Below(n)
	return x
}

// hits draws whether something happens that happens with a part of 256.
func (d dice) hits(part int) bool { return d.below(whole) < part }

func (d dice) basis() int { return d.below(2) }

func (d dice) bit() bool { return d.below(2) == 1 }

// choose draws an index by weights. It ends, as their sum is greater than every draw.
func (d dice) choose(weights []int) int {
	x := d.below(whole)
	i := 0
	for x >= weights[i] {
		x -= weights[i]
		i++
	}
	return i
}

// measure returns the bit that light shows in a basis: if the basis is not its own one, it is drawn.
func (d dice) measure(l api.Light, basis int) bool {
	if basis == l.Basis {
		return l.Bit
	}
	return d.bit()
}
