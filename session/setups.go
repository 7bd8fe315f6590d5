package session

import (
	"slices"

	"waveplate/algebra"
	"waveplate/api"
	"waveplate/exact"
	"waveplate/optics"
	"waveplate/reconcile"
	"waveplate/sift"
)

// Check reports whether a setup is valid.
func Check(s api.Setup) api.Errno {
	valid := areOptics(s.Optics) &&
		within(s.Slots, 1, api.MaxRun) &&
		within(s.Head, 0, s.Slots) &&
		within(s.Need, 0, api.MaxSlots) &&
		within(s.Block, 1, api.MaxBlock) &&
		within(s.Sample, 0, s.Block-1) &&
		isBelowOne(s.Eps) &&
		exact.CheckFrac(s.Limit) == api.OK &&
		reconcile.Check(s.Plan) == api.OK &&
		isWidth(s.Width) &&
		within(s.Margin, 0, api.MaxBlock) &&
		within(s.Tries, 1, api.MaxTries)
	if !valid {
		return api.ErrArg
	}
	return api.OK
}

// areOptics reports whether an arrangement is valid, and, if it has decoys, suited to them.
func areOptics(o api.Optics) bool {
	if o.Kind == api.Decoy {
		return sift.Suits(o) == api.OK
	}
	return optics.Check(o) == api.OK
}

// isBelowOne reports whether a fraction is valid, and less than 1.
func isBelowOne(f api.Frac) bool {
	order, e := exact.FracCompare(f, api.Frac{Num: exact.Of(1), Den: exact.Of(1)})
	return e == api.OK && order < 0
}

func isWidth(w int) bool { return w == 8 || w == 16 || w == 32 }

// cloneSetup returns a setup that shares no memory with s.
func cloneSetup(s api.Setup) api.Setup {
	s.Eps, s.Limit = cloneFrac(s.Eps), cloneFrac(s.Limit)
	return s
}

func cloneFrac(f api.Frac) api.Frac {
	return api.Frac{Num: slices.Clone(f.Num), Den: slices.Clone(f.Den)}
}

// publicNumbers are what follows from a setup and the number of a session, and what everybody may know.
type publicNumbers struct {
	sample  uint64 // the sample's seed
	plan    api.Cascade
	hash    uint64 // the hash key
	amplify uint64 // the seed of the amplification
}

// publicOf returns the public numbers of a session.
func publicOf(s api.Setup, session int) publicNumbers {
	d := algebra.New(s.Seed + uint64(session))
	var p publicNumbers
	p.sample = d.Next()
	p.plan = s.Plan
	p.plan.Seed += d.Next()
	p.hash = d.Next() % (1 << s.Width)
	p.amplify = d.Next()
	return p
}
