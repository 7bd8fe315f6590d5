package sift_test

import (
	"fmt"
	"math"
	"slices"
	"testing"

	"waveplate/api"
	"waveplate/optics"
	"waveplate/sift"
)

func checkClass(t *testing.T, p []api.Pulse, slots []int, class int) api.Errno {
	t.Helper()
	l, e := sift.Class(p, slots, class)
	list, err := modelClass(p, slots, class)
	want(t, fmt.Sprintf("Class of %s, %s, %d", short(p), short(slots), class), l, e, list, err)
	return err
}

func checkSent(t *testing.T, p []api.Pulse, slots []int) api.Errno {
	t.Helper()
	l, e := sift.Sent(p, slots)
	list, err := modelSent(p, slots)
	want(t, fmt.Sprintf("Sent of %s, %s", short(p), short(slots)), l, e, list, err)
	return err
}

func checkReceived(t *testing.T, c []api.Click, shift int, slots []int) api.Errno {
	t.Helper()
	l, e := sift.Received(c, shift, slots)
	list, err := modelReceived(c, shift, slots)
	want(t, fmt.Sprintf("Received of %s, %d, %s", short(c), shift, short(slots)), l, e, list, err)
	return err
}

func checkKnown(t *testing.T, p []api.Pulse, notes []api.Note, slots []int) api.Errno {
	t.Helper()
	n, e := sift.Known(p, notes, slots)
	value, err := modelKnown(p, notes, slots)
	wantOne(t, fmt.Sprintf("Known of %s, %s, %s", short(p), short(notes), short(slots)), n, e, value, err)
	return err
}

// P4.5 and P4.6: any pulses and slots.
func TestSlotsOfPulses(t *testing.T) {
	r := newRand()
	class, sent := tally{}, tally{}
	for range 6000 {
		p := anyPulses(r)
		slots := anySlots(r, 0, min(len(p), 40))
		class[checkClass(t, p, slots, orEdge(r, r.IntN(3)))]++
		sent[checkSent(t, p, slots)]++
	}
	class.wantAll(t, api.OK, api.ErrMany, api.ErrArg, api.ErrRange, api.ErrForm)
	sent.wantAll(t, api.OK, api.ErrMany, api.ErrArg, api.ErrRange, api.ErrForm)
}

// P4.6: any clicks and slots.
func TestSlotsOfClicks(t *testing.T) {
	r := newRand()
	met := tally{}
	for range 12000 {
		c, shift := anyClicks(r), orEdge(r, r.IntN(33)-16)
		if !rarely(r, 5) {
			for i := range c {
				c[i].Kind = oneOf(r, []int{api.Zero, api.One, c[i].Kind, 1 + i%2})
			}
		}
		by := max(-16, min(shift, 16))
		met[checkReceived(t, c, shift, anySlots(r, max(0, -by), min(len(c)-by, 40)))]++
	}
	met.wantAll(t, api.OK, api.ErrMany, api.ErrArg, api.ErrRange, api.ErrForm, api.ErrNone)
}

// P4.6: a click of each sort, and each shift.
func TestReceivedOfOneSlot(t *testing.T) {
	for shift := -16; shift <= 16; shift++ {
		for slot := -20; slot <= 40; slot++ {
			for kind := range 4 {
				c := make([]api.Click, 20)
				if j := slot + shift; j >= 0 && j < 20 {
					c[j].Kind = kind
				}
				checkReceived(t, c, shift, []int{slot})
			}
		}
	}
}

// P4.6: all faults of slots come before a click that is not Zero or One.
func TestReceivedErrors(t *testing.T) {
	c := []api.Click{{}, {Kind: api.One}, {Kind: api.Both}, {Kind: api.Zero}}
	for _, x := range []struct {
		slots []int
		err   api.Errno
	}{
		{[]int{1, 3}, api.OK},
		{[]int{0}, api.ErrNone},
		{[]int{2}, api.ErrNone},
		{[]int{0, 4}, api.ErrRange},
		{[]int{0, -1}, api.ErrRange},
		{[]int{2, 2}, api.ErrForm},
		{[]int{2, 1}, api.ErrForm},
		{[]int{3, 2, 4}, api.ErrForm},
		{[]int{3, 4, 2}, api.ErrRange},
		{[]int{1, 2, 3}, api.ErrNone},
		{nil, api.OK},
	} {
		if err := checkReceived(t, c, 0, x.slots); err != x.err {
			t.Errorf("the model says %d of %v", err, x.slots)
		}
	}
	many := make([]api.Click, 4097)
	for _, n := range edgeInts {
		checkReceived(t, c, n, nil)
		checkReceived(t, c, n, []int{-1})
		checkReceived(t, c, 1, []int{n})
		checkReceived(t, c, -1, []int{n})
		checkReceived(t, c, 16, []int{n})
		checkReceived(t, many, n, []int{n})
		checkReceived(t, many[:4096], -16, []int{n})
		for _, x := range wrongClicks() {
			checkReceived(t, []api.Click{{}, x}, n, []int{n})
		}
		checkReceived(t, slices.Concat(many, wrongClicks()), n, nil)
	}
	checkReceived(t, nil, 0, nil)
	checkReceived(t, nil, 0, []int{0})
}

// P4.5 and P4.6: errors of pulses, of the class, and of slots, in this order.
func TestSlotErrors(t *testing.T) {
	p := make([]api.Pulse, 4097)
	lists := [][]int{nil, {}, {0}, {0, 1, 4}, {4, 4}, {4, 3}, {3, 4, 9}, {9, 3}, {4, 3, 9}, {-1}, {0, -1}, {4, -1}, {5}, {4, 5}, {math.MaxInt, math.MaxInt}, {math.MinInt, 0}, {0, math.MaxInt}}
	for _, slots := range lists {
		for _, q := range [][]api.Pulse{p[:5], nil, p, append(slices.Clone(p), wrongPulses()...), wrongPulses()[:1]} {
			for _, n := range edgeInts {
				checkClass(t, q, slots, n)
			}
			checkSent(t, q, slots)
			checkKnown(t, q, nil, slots)
			checkKnown(t, q, []api.Note{{}}, slots)
		}
	}
	for _, x := range wrongPulses() {
		checkClass(t, []api.Pulse{{}, x}, []int{9}, 3)
		checkSent(t, []api.Pulse{{}, x}, []int{9})
		checkKnown(t, []api.Pulse{{}, x}, []api.Note{{}}, []int{9})
	}
	all := make([]int, 4096)
	for i := range all {
		all[i] = i
	}
	checkClass(t, p[:4096], all, 0)
	checkSent(t, p[:4096], all)
	checkKnown(t, p[:4096], nil, all)
	checkSent(t, p[:4095], all)
}

// P4.7: any notes.
func TestKnown(t *testing.T) {
	r := newRand()
	met := tally{}
	wrong := []api.Note{{}, {How: 4}, {How: 1, Basis: 2}, {How: 2, Slot: -1}, {How: 3, Slot: 4096}, {How: 1, Slot: math.MaxInt}}
	for range 6000 {
		p := anyPulses(r)
		notes := randomNotes(r, r.IntN(30), max(1, min(len(p), 24)))
		if len(notes) > 0 && rarely(r, 8) {
			notes[r.IntN(len(notes))] = oneOf(r, wrong)
		}
		met[checkKnown(t, p, notes, anySlots(r, 0, min(len(p), 24)))]++
	}
	met.wantAll(t, api.OK, api.ErrMany, api.ErrArg, api.ErrRange, api.ErrForm)
	many := make([]api.Note, 131073)
	for _, slots := range [][]int{nil, {0}, {1}, {0, 0}} {
		checkKnown(t, make([]api.Pulse, 1), many, slots)
		checkKnown(t, make([]api.Pulse, 1), many[:131072], slots)
	}
}

// P4.7: of what the eavesdropper knows, only the given slots are counted, each once.
func TestKnownSlots(t *testing.T) {
	p := make([]api.Pulse, 10)
	var notes []api.Note
	for _, slot := range []int{3, 3, 7, 8, 1} {
		notes = append(notes, api.Note{Slot: slot, How: api.Kept})
	}
	known, _ := optics.Knows(p, notes)
	want(t, "Knows", known, api.OK, []int{1, 3, 7, 8}, api.OK)
	for i := range 1 << 10 {
		var slots []int
		right := 0
		for slot := range 10 {
			if i>>slot&1 == 1 {
				slots = append(slots, slot)
				if slices.Contains(known, slot) {
					right++
				}
			}
		}
		n, e := sift.Known(p, notes, slots)
		wantOne(t, fmt.Sprint("Known of ", slots), n, e, right, api.OK)
	}
}

// P4.11.
func TestBlocks(t *testing.T) {
	r := newRand()
	for range 2000 {
		slots := make([]int, r.IntN(40))
		for i := range slots {
			slots[i] = orEdge(r, r.IntN(100))
		}
		size := 1 + r.IntN(20)
		if rarely(r, 10) {
			size = oneOf(r, []int{511, 512})
		}
		var right [][]int
		for i := range len(slots) / size {
			right = append(right, slots[i*size:][:size])
		}
		wantBlocks(t, slots, size, right, api.OK)
	}
}

// wantBlocks fails unless Blocks gives these blocks and this error.
func wantBlocks(t *testing.T, slots []int, size int, right [][]int, err api.Errno) {
	t.Helper()
	l, e := sift.Blocks(slots, size)
	if e != err || !slices.EqualFunc(l, right, slices.Equal[[]int]) {
		t.Errorf("Blocks of %s by %d: %s, %d, want %s, %d", short(slots), size, short(l), e, short(right), err)
	}
}

// P4.11: the limits, and errors in their order.
func TestBlockErrors(t *testing.T) {
	slots := make([]int, 4097)
	for i := range slots {
		slots[i] = i
	}
	for _, size := range edgeInts {
		l, e := sift.Blocks(slots[:4096], size)
		if !in(size, 1, 512) {
			wantBlocks(t, slots, size, nil, api.ErrRange)
			wantBlocks(t, nil, size, nil, api.ErrRange)
			wantBlocks(t, slots[:4096], size, nil, api.ErrRange)
			continue
		}
		wantBlocks(t, slots, size, nil, api.ErrMany)
		wantBlocks(t, nil, size, nil, api.OK)
		wantBlocks(t, []int{}, size, nil, api.OK)
		if len(l) != 4096/size || e != api.OK || !slices.Equal(slices.Concat(l...), slots[:4096/size*size]) {
			t.Errorf("Blocks of 4096 by %d: %d blocks, %d", size, len(l), e)
		}
	}
	wantBlocks(t, slots[:512], 512, [][]int{slots[:512]}, api.OK)
	wantBlocks(t, slots[:511], 512, nil, api.OK)
	wantBlocks(t, []int{5, 5, -1, math.MinInt, math.MaxInt}, 2, [][]int{{5, 5}, {-1, math.MinInt}}, api.OK)
	wantBlocks(t, []int{3, 5, 8, 9, 12}, 2, [][]int{{3, 5}, {8, 9}}, api.OK)
	wantBlocks(t, []int{3, 5, 8, 9, 12}, 6, nil, api.OK)
}
