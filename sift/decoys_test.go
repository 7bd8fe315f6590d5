package sift_test

import (
	"fmt"
	"math"
	"math/big"
	"math/rand/v2"
	"slices"
	"testing"

	"waveplate/api"
	"waveplate/sift"
)

func checkGains(t *testing.T, p []api.Pulse, kept []int, b []bool, from int) api.Errno {
	t.Helper()
	g, e := sift.Gains(p, kept, b, from)
	value, err := modelGains(p, kept, b, from)
	wantOne(t, fmt.Sprintf("Gains of %s, %s, %s, %d", short(p), short(kept), short(b), from), g, e, value, err)
	return err
}

func checkSuits(t *testing.T, o api.Optics) api.Errno {
	t.Helper()
	e, err := sift.Suits(o), modelSuits(o)
	wantOne(t, fmt.Sprint("Suits of ", o), e, e, err, err)
	return err
}

// checkBounds fails unless Yield, Faults and Singles say what the chapter says.
func checkBounds(t *testing.T, o api.Optics, g [3]api.Gain, n int) api.Errno {
	t.Helper()
	what := fmt.Sprintf(" of %v, %v, %d", o, g, n)
	err := modelDecoys(o, g)
	y, e := sift.Yield(o, g)
	f, e2 := sift.Faults(o, g)
	k, e3 := sift.Singles(o, g, n)
	if err != api.OK {
		wantFrac(t, "Yield"+what, y, e, nil, err)
		wantFrac(t, "Faults"+what, f, e2, nil, err)
		wantOne(t, "Singles"+what, k, e3, 0, err)
		return err
	}
	wantFrac(t, "Yield"+what, y, e, modelYield(o, g), api.OK)
	wantFrac(t, "Faults"+what, f, e2, modelFaults(o, g), api.OK)
	if !in(n, 0, 512) {
		wantOne(t, "Singles"+what, k, e3, 0, api.ErrRange)
		return api.ErrRange
	}
	wantOne(t, "Singles"+what, k, e3, modelSingles(o, g, n), api.OK)
	return api.OK
}

// P4.8: any arguments.
func TestGains(t *testing.T) {
	r := newRand()
	met := tally{}
	for range 10000 {
		p := anyPulses(r)
		from := orEdge(r, r.IntN(min(len(p), 20)+2))
		kept := anySlots(r, max(0, min(from, 20)), min(len(p), 40))
		if !rarely(r, 6) {
			kept = slices.DeleteFunc(kept, func(slot int) bool { return in(slot, 0, len(p)-1) && !p[slot].Seen })
		}
		n := len(kept)
		if rarely(r, 8) {
			n += r.IntN(3)
		}
		met[checkGains(t, p, kept, randomBits(r, n), from)]++
	}
	met.wantAll(t, api.OK, api.ErrMany, api.ErrArg, api.ErrRange, api.ErrForm, api.ErrEqual, api.ErrState)
}

// P4.8: errors, in their order.
func TestGainErrors(t *testing.T) {
	p := make([]api.Pulse, 4097)
	for i := range p {
		p[i] = api.Pulse{Class: i % 3, Seen: i != 6}
	}
	for _, x := range []struct {
		kept []int
		bits int
		from int
		err  api.Errno
	}{
		{[]int{4, 5}, 2, 4, api.OK},
		{[]int{4, 5}, 2, 5, api.ErrRange},
		{[]int{4, 5}, 2, 4097, api.ErrRange},
		{[]int{4, 5}, 2, -1, api.ErrRange},
		{[]int{4, 5}, 1, 4, api.ErrEqual},
		{[]int{4, 5}, 3, 4, api.ErrEqual},
		{nil, 1, 4, api.ErrEqual},
		{nil, 0, 4096, api.OK},
		{nil, 0, 4097, api.ErrRange},
		{[]int{4, 6}, 2, 4, api.ErrState},
		{[]int{4, 6}, 1, 4, api.ErrEqual},
		{[]int{4, 6}, 2, 5, api.ErrRange},
		{[]int{5, 4}, 2, 5, api.ErrForm}, // the errors of slots come before a slot that is less than from
		{[]int{4, 4}, 2, 5, api.ErrForm},
		{[]int{4, 9}, 2, 5, api.ErrRange},
		{[]int{4, 4}, 2, 4097, api.ErrRange},
		{[]int{6, 6}, 1, 5, api.ErrForm},
		{[]int{-1}, 1, 0, api.ErrRange},
		{[]int{8, 9}, 2, 0, api.ErrRange},
	} {
		if err := checkGains(t, p[:9], x.kept, make([]bool, x.bits), x.from); err != x.err {
			t.Errorf("the model says %d of %v", err, x)
		}
		checkGains(t, p, x.kept, make([]bool, x.bits), x.from)
		checkGains(t, p[:4096], x.kept, make([]bool, x.bits), x.from)
		for _, q := range wrongPulses() {
			checkGains(t, []api.Pulse{{}, q}, x.kept, make([]bool, x.bits), x.from)
		}
		checkGains(t, append(slices.Clone(p), wrongPulses()[0]), x.kept, make([]bool, x.bits), x.from)
	}
	for _, n := range edgeInts {
		checkGains(t, p[:9], nil, nil, n)
		checkGains(t, p[:4096], []int{4095}, make([]bool, 1), n)
		checkGains(t, p[:9], []int{n}, make([]bool, 1), 0)
		checkGains(t, nil, nil, nil, n)
	}
}

// P4.8: which pulses are counted.
func TestWhatGainsCount(t *testing.T) {
	p := []api.Pulse{{Class: 2, Seen: true}, {Class: 0, Seen: true}, {Class: 1}, {Class: 1, Seen: true, Bit: true}, {Class: 2, Seen: true, Bit: true}, {Class: 2, Seen: true}}
	for from, right := range [][3]api.Gain{
		{{Sent: 1}, {Sent: 1, Heard: 1}, {Sent: 3, Heard: 2, Wrong: 1}},
		{{Sent: 1}, {Sent: 1, Heard: 1}, {Sent: 2, Heard: 2, Wrong: 1}},
		{{}, {Sent: 1, Heard: 1}, {Sent: 2, Heard: 2, Wrong: 1}},
		{{}, {Sent: 1, Heard: 1}, {Sent: 2, Heard: 2, Wrong: 1}},
	} {
		g, e := sift.Gains(p, []int{3, 4, 5}, bitsOf("100"), from)
		wantOne(t, fmt.Sprint("from ", from), g, e, right, api.OK)
	}
	g, e := sift.Gains(p, nil, nil, 6)
	wantOne(t, "from the end", g, e, [3]api.Gain{}, api.OK)
	g, e = sift.Gains(p, nil, nil, 4096)
	wantOne(t, "from behind the end", g, e, [3]api.Gain{}, api.OK)
}

// P4.9: any arrangement.
func TestSuits(t *testing.T) {
	r := newRand()
	met := tally{}
	for range 20000 {
		o := randomDecoys(r)
		switch r.IntN(8) {
		case 0:
			o.Kind = orEdge(r, r.IntN(3))
		case 1:
			o.Eta = orEdge(r, o.Eta)
		case 2:
			o.Photons[r.IntN(3)][r.IntN(4)]++
		}
		met[checkSuits(t, o)]++
	}
	for _, kind := range []int{api.Prepare, api.Pairs} {
		o := decoys([4]int{256}, [4]int{0, 256})
		o.Kind, o.Classes = kind, [3]int{0, 0, 256}
		met[checkSuits(t, o)]++
		o.Eta = 257
		met[checkSuits(t, o)]++
	}
	met.wantAll(t, api.OK, api.ErrArg, api.ErrState)
}

// P4.9: what suits, at the edge.
func TestWhatSuits(t *testing.T) {
	for _, x := range []struct {
		weak, signal [4]int
		err          api.Errno
	}{
		{[4]int{128, 96, 32, 0}, [4]int{64, 64, 64, 64}, api.OK},
		{[4]int{64, 64, 64, 64}, [4]int{64, 64, 64, 64}, api.ErrState}, // D is 0
		{[4]int{63, 65, 64, 64}, [4]int{64, 64, 64, 64}, api.OK},       // D is 64, both products are equal
		{[4]int{62, 65, 64, 65}, [4]int{64, 64, 64, 64}, api.ErrState}, // the first product is greater
		{[4]int{64, 65, 64, 63}, [4]int{64, 64, 64, 64}, api.OK},
		{[4]int{65, 63, 64, 64}, [4]int{64, 64, 64, 64}, api.ErrState}, // D is below 0
		{[4]int{0, 256, 0, 0}, [4]int{0, 0, 256, 0}, api.OK},
		{[4]int{0, 255, 0, 1}, [4]int{0, 0, 256, 0}, api.ErrState},
		{[4]int{0, 255, 0, 1}, [4]int{0, 255, 1, 0}, api.ErrState}, // the first product is greater by 1
		{[4]int{255, 1, 0, 0}, [4]int{255, 0, 1, 0}, api.OK},       // D is 1
		{[4]int{0, 256, 0, 0}, [4]int{0, 255, 1, 0}, api.OK},
		{[4]int{0, 256, 0, 0}, [4]int{0, 256, 0, 0}, api.ErrState},
		{[4]int{256, 0, 0, 0}, [4]int{0, 0, 256, 0}, api.ErrState},
		{[4]int{0, 0, 0, 256}, [4]int{0, 0, 0, 256}, api.ErrState},
	} {
		o := decoys(x.weak, x.signal)
		e := sift.Suits(o)
		wantOne(t, fmt.Sprint("Suits of ", x.weak, x.signal), e, e, x.err, x.err)
		checkSuits(t, o)
	}
}

// suited returns any suited arrangement.
func suited(r *rand.Rand) api.Optics {
	for {
		if o := randomDecoys(r); modelSuits(o) == api.OK {
			return o
		}
	}
}

// P4.10: any gains.
func TestBounds(t *testing.T) {
	r := newRand()
	met := tally{}
	whole := map[string]int{}
	for range 20000 {
		o, g, n := suited(r), randomGains(r), orEdge(r, r.IntN(513))
		if rarely(r, 8) {
			o = randomDecoys(r)
		}
		if rarely(r, 8) {
			x := &g[r.IntN(3)]
			*oneOf(r, []*int{&x.Sent, &x.Heard, &x.Wrong}) = oneOf(r, edgeInts)
		}
		if rarely(r, 8) {
			g[r.IntN(3)] = api.Gain{}
		}
		err := checkBounds(t, o, g, n)
		met[err]++
		if err == api.OK {
			whole["yield "+modelYield(o, g).FloatString(0)]++
			whole["faults "+modelFaults(o, g).FloatString(0)]++
		}
	}
	met.wantAll(t, api.OK, api.ErrArg, api.ErrState, api.ErrNone, api.ErrRange)
	for _, s := range []string{"yield 0", "yield 1", "faults 0", "faults 1"} {
		if whole[s] < 100 {
			t.Errorf("%s: %d times", s, whole[s])
		}
	}
}

// P4.10: the errors of Suits, of the gains, and of n, in this order.
func TestBoundErrors(t *testing.T) {
	o, g := theExample()
	notValid, notDecoy, notSuited := o, o, o
	notValid.Eta = -1
	notDecoy.Kind, notDecoy.Classes, notDecoy.Photons[1] = api.Prepare, [3]int{0, 0, 256}, [4]int{256}
	notSuited.Photons[1] = [4]int{256}
	for _, n := range edgeInts {
		for _, x := range []api.Optics{o, notValid, notDecoy, notSuited} {
			for i := range g {
				for _, gain := range []api.Gain{{}, {Sent: 0, Heard: 1}, {Sent: -1}, {Sent: 9, Heard: 10}, {Sent: 9, Heard: 9, Wrong: 10}, {Sent: 9, Heard: 9, Wrong: -1}, {Sent: 9, Heard: -1}, {Sent: 9, Heard: -1, Wrong: -2}, {Sent: 4096, Heard: 4096, Wrong: 4096}, {Sent: 4097}, {Sent: math.MaxInt, Heard: math.MaxInt, Wrong: math.MaxInt}, {Sent: math.MinInt, Heard: math.MinInt, Wrong: math.MinInt}} {
					h := g
					h[i] = gain
					checkBounds(t, x, h, n)
					h[(i+1)%3] = api.Gain{}
					checkBounds(t, x, h, n)
					h[(i+2)%3] = api.Gain{Heard: 1}
					checkBounds(t, x, h, n)
				}
			}
		}
	}
}

// P4.10: gains at the limits.
func TestBoundsAtTheLimits(t *testing.T) {
	r := newRand()
	for _, numbers := range [][]int{{0, 1, 4096}, {0, 4095, 4096}, {1, 2, 3}} {
		for range 3000 {
			var g [3]api.Gain
			for i := range g {
				l := []int{oneOf(r, numbers), oneOf(r, numbers), oneOf(r, numbers)}
				slices.Sort(l)
				g[i] = api.Gain{Sent: max(1, l[2]), Heard: l[1], Wrong: l[0]}
			}
			checkBounds(t, suited(r), g, oneOf(r, []int{0, 1, 511, 512}))
		}
	}
}

// P4.10: without a kept slot of the class Signal there are no singles.
func TestNoSignal(t *testing.T) {
	o, g := theExample()
	g[api.Signal] = api.Gain{Sent: 100}
	y, e := sift.Yield(o, g)
	wantFrac(t, "the yield", y, e, big.NewRat(1, 1), api.OK)
	n, e := sift.Singles(o, g, 512)
	wantOne(t, "the singles", n, e, 0, api.OK)
	n, e = sift.Singles(o, g, 513)
	wantOne(t, "the singles of too many bits", n, e, 0, api.ErrRange)
}

// The chapter's example of decoys, and others that were computed by hand.
func TestDecoyExamples(t *testing.T) {
	o, g := theExample()
	y, e := sift.Yield(o, g)
	wantFrac(t, "the yield", y, e, big.NewRat(1, 5), api.OK)
	f, e := sift.Faults(o, g)
	wantFrac(t, "the faults", f, e, new(big.Rat), api.OK)
	n, e := sift.Singles(o, g, 100)
	wantOne(t, "the singles", n, e, 12, api.OK)
	n, e = sift.Singles(o, g, 512)
	wantOne(t, "the singles of 512", n, e, 64, api.OK) // 512 / 8

	// E is 64 · 0 - 32 · 128 = -4096: vacuum adds to the yield. D is 64 · 224 - 32 · 64 = 12288.
	o = decoys([4]int{0, 224, 32, 0}, [4]int{128, 64, 64, 0})
	g = [3]api.Gain{{Sent: 10, Heard: 1, Wrong: 1}, {Sent: 10, Heard: 2, Wrong: 2}, {Sent: 10, Heard: 1}}
	y, e = sift.Yield(o, g)
	wantFrac(t, "the yield", y, e, big.NewRat(16384*2-8192+4096, 122880), api.OK)
	f, e = sift.Faults(o, g)
	wantFrac(t, "the faults", f, e, big.NewRat(8, 35), api.OK) // 256 · 2 / 10 / 224
	n, e = sift.Singles(o, g, 512)
	wantOne(t, "the singles", n, e, 298, api.OK) // 512 · 64 · 7/30 / 25.6 = 298.67
}
