package distil_test

import (
	"fmt"
	"math/rand/v2"
	"slices"
	"testing"

	"waveplate/algebra"
	"waveplate/api"
	"waveplate/distil"
)

// pair is a pool and what the model says of it.
type pair struct {
	pool  *distil.Pool
	model *modelPool
}

func newPair(t *testing.T, w int, bits []bool) pair {
	t.Helper()
	return pair{newPool(t, w, bits), &modelPool{width: w, bits: slices.Clone(bits)}}
}

func (p pair) copy() pair {
	return pair{p.pool.Copy(), &modelPool{p.model.width, slices.Clone(p.model.bits), slices.Clone(p.model.used)}}
}

// check compares what can be seen of a pool without a change.
func (p pair) check(t *testing.T, what string) {
	t.Helper()
	wantOne(t, what+": Room", p.pool.Room(), api.OK, p.model.room(), api.OK)
	want(t, what+": Used", p.pool.Used(), api.OK, p.model.used, api.OK)
	for side := -1; side <= 2; side++ {
		p.next(t, side)
	}
}

func (p pair) next(t *testing.T, side int) (int, api.Errno) {
	t.Helper()
	n, e := p.pool.Next(side)
	number, err := p.model.next(side)
	wantOne(t, fmt.Sprintf("Next(%d)", side), n, e, number, err)
	return number, err
}

func (p pair) seal(t *testing.T, number int, m []bool) (uint64, api.Errno) {
	t.Helper()
	got, e := p.pool.Seal(number, m)
	tag, err := p.model.seal(number, m)
	wantOne(t, fmt.Sprintf("Seal(%d) of %d bits", number, len(m)), got, e, tag, err)
	return tag, err
}

func (p pair) open(t *testing.T, number int, m []bool, tag uint64) api.Errno {
	t.Helper()
	err := p.model.open(number, m, tag)
	wantError(t, fmt.Sprintf("Open(%d) of %d bits", number, len(m)), p.pool.Open(number, m, tag), err)
	return err
}

func (p pair) refill(t *testing.T, bits []bool) api.Errno {
	t.Helper()
	err := p.model.refill(bits)
	wantError(t, fmt.Sprintf("Refill of %d bits", len(bits)), p.pool.Refill(bits), err)
	return err
}

// P6.10: the width comes before the length.
func TestNewPool(t *testing.T) {
	for _, w := range edgeInts {
		for _, n := range []int{0, 1, 65535, 65536, 65537, 100000} {
			p, e := distil.NewPool(w, make([]bool, n))
			err := firstOf(unless(slices.Contains(widths, w), api.ErrArg), unless(n <= 65536, api.ErrLong))
			wantOne(t, fmt.Sprintf("NewPool of the width %d, %d bits", w, n), p != nil, e, err == api.OK, err)
		}
	}
}

// P6.10: how many numbers pools have.
func TestRoom(t *testing.T) {
	for _, w := range widths {
		for n := range 6*w + 2 {
			newPair(t, w, make([]bool, n)).check(t, fmt.Sprintf("%d bits, the width %d", n, w))
		}
	}
	for w, room := range map[int]int{8: 4096, 16: 2048, 32: 1024} {
		wantOne(t, "the room of the greatest pool", newPool(t, w, make([]bool, 65536)).Room(), api.OK, room, api.OK)
		wantOne(t, "the room of a bit less", newPool(t, w, make([]bool, 65535)).Room(), api.OK, room-1, api.OK)
	}
}

// anyStep calls any function of a pool, and returns its error.
func anyStep(t *testing.T, r *rand.Rand, p pair) api.Errno {
	t.Helper()
	number := orEdge(r, r.IntN(p.model.room()+1))
	m := randomBits(r, r.IntN(20))
	if rarely(r, 40) {
		m = make([]bool, 65537)
	}
	switch r.IntN(8) {
	case 0:
		return p.refill(t, randomBits(r, r.IntN(20)))
	case 1, 2:
		_, e := p.next(t, orEdge(r, r.IntN(2)))
		return e
	case 3, 4, 5:
		_, e := p.seal(t, number, m)
		return e
	}
	tag := r.Uint64()
	if p.model.check(number, m) == api.OK && !rarely(r, 4) {
		tag = p.model.tag(number, m)
	}
	return p.open(t, number, m, tag)
}

// P6.10 to P6.14: any calls, one after the other; an error changes nothing.
func TestPools(t *testing.T) {
	r := newRand()
	met := tally{}
	for range 150 {
		p := newPair(t, oneOf(r, widths), randomBits(r, r.IntN(300)))
		for range 40 {
			met[anyStep(t, r, p)]++
			p.check(t, "a pool")
		}
	}
	met.wantAll(t, api.OK, api.ErrArg, api.ErrRange, api.ErrShort, api.ErrOld, api.ErrLong, api.ErrTag)
}

// P6.10: a copy and its original go on without each other.
func TestCopy(t *testing.T) {
	r := newRand()
	for range 60 {
		p := newPair(t, oneOf(r, widths), randomBits(r, r.IntN(300)))
		for range 6 {
			anyStep(t, r, p)
		}
		pairs := []pair{p, p.copy()}
		pairs = append(pairs, pairs[1].copy())
		for range 40 {
			anyStep(t, r, oneOf(r, pairs))
			for _, x := range pairs {
				x.check(t, "the original or a copy")
			}
		}
	}
}

// P6.11 and P6.12: each error in its turn.
func TestOrderOfPoolErrors(t *testing.T) {
	long, m := make([]bool, 65537), bitsOf("01")
	for _, w := range widths {
		p := newPair(t, w, make([]bool, 6*w+3))
		p.seal(t, 1, m)
		for _, x := range []struct {
			number int
			m      []bool
			want   api.Errno
		}{
			{-1, m, api.ErrRange}, {-1, long, api.ErrRange}, {-1 << 63, long, api.ErrRange},
			{3, m, api.ErrShort}, {3, long, api.ErrShort}, {1<<63 - 1, long, api.ErrShort}, {1 << 58, m, api.ErrShort},
			{1, m, api.ErrOld}, {1, long, api.ErrOld},
			{0, long, api.ErrLong}, {2, long, api.ErrLong},
		} {
			_, e := p.seal(t, x.number, x.m)
			wantError(t, "Seal", e, x.want)
			wantError(t, "Open", p.open(t, x.number, x.m, 99), x.want)
			p.check(t, "behind an error")
		}
		wantError(t, "Open", p.open(t, 0, m, p.model.tag(0, m)^1), api.ErrTag)
		p.check(t, "behind a wrong tag")
		wantError(t, "Open", p.open(t, 0, make([]bool, 65536), 0), api.OK)
	}
}

// P6.12: each other tag is wrong, also if it is not below 2 to the width; so is each tag of another message, unless it is the same.
func TestWrongTags(t *testing.T) {
	r := newRand()
	for _, w := range widths {
		p := newPair(t, w, randomBits(r, 8*w))
		m := randomBits(r, 30)
		tag := p.model.tag(2, m)
		for i := range 64 {
			wantError(t, "Open", p.open(t, 2, m, tag^1<<i), api.ErrTag)
		}
		for i := range m {
			p.copy().open(t, 2, flip(m, i), tag)
		}
		for number := range 4 {
			p.copy().open(t, number, m, tag)
		}
		p.check(t, "behind wrong tags")
		wantError(t, "Open", p.open(t, 2, m, tag), api.OK)
		p.check(t, "behind the right tag")
	}
}

// P6.11 and P6.9: the tags of a pool whose bits were drawn, as another program computed them.
func TestKnownPools(t *testing.T) {
	bits, e := algebra.New(31).Bits(200)
	wantError(t, "Bits", e, api.OK)
	for w, tags := range map[int][]uint64{
		8:  {25, 240, 65, 16, 138, 161, 193, 110, 207, 194, 64, 248},
		16: {54171, 43590, 19286, 28711, 20407, 24199},
		32: {2726327091, 33232971, 113135955},
	} {
		a, b := newPool(t, w, bits), newPool(t, w, bits)
		wantOne(t, "Room", a.Room(), api.OK, len(tags), api.OK)
		for i, want := range tags {
			tag, e := a.Seal(i, bitsOf(knownMessage))
			wantOne(t, fmt.Sprintf("Seal(%d) with the width %d", i, w), tag, e, want, api.OK)
			wantError(t, "Open", b.Open(i, bitsOf(knownMessage), want), api.OK)
		}
	}
}

// P6.13: the two sides take the even and the odd numbers, whatever the other side does, and do not go back to those that were left out.
func TestNext(t *testing.T) {
	p := newPair(t, 8, make([]bool, 16*9))
	for _, x := range []struct{ number, even, odd int }{{4, 6, 1}, {0, 6, 1}, {2, 6, 1}, {1, 6, 3}, {5, 6, 7}, {6, 8, 7}, {3, 8, 7}} {
		p.seal(t, x.number, nil)
		even, e := p.next(t, 0)
		wantOne(t, "Next(0)", even, e, x.even, api.OK)
		odd, e := p.next(t, 1)
		wantOne(t, "Next(1)", odd, e, x.odd, api.OK)
	}
	p.seal(t, 8, nil)
	p.seal(t, 7, nil)
	for side := range 2 {
		_, e := p.next(t, side)
		wantError(t, "Next at the end", e, api.ErrShort)
	}
	p.refill(t, make([]bool, 16))
	odd, e := p.next(t, 1)
	wantOne(t, "Next(1) behind Refill", odd, e, 9, api.OK)
	_, e = p.next(t, 0)
	wantError(t, "Next(0) behind Refill", e, api.ErrShort)
	for _, side := range edgeInts {
		if side != 0 && side != 1 {
			_, e := p.next(t, side)
			wantError(t, "Next of no side", e, api.ErrArg)
		}
	}
}

// P6.13: a pool of one number, or of none.
func TestNextOfSmallPools(t *testing.T) {
	for numbers, l := range [][2]api.Errno{{api.ErrShort, api.ErrShort}, {api.OK, api.ErrShort}, {api.OK, api.OK}} {
		p := newPair(t, 16, make([]bool, 32*numbers+31))
		for side, err := range l {
			n, e := p.next(t, side)
			wantOne(t, "Next", n, e, side*(1-min(1, int(err))), err)
		}
		_, e := p.next(t, 2)
		wantError(t, "Next(2)", e, api.ErrArg)
	}
}

// P6.14: how many bits a pool can have.
func TestRefillAtTheLimit(t *testing.T) {
	for _, n := range []int{0, 1, 65535, 65536} {
		p := newPair(t, 8, make([]bool, n))
		wantError(t, "a bit too many", p.refill(t, make([]bool, 65537-n)), api.ErrLong)
		wantError(t, "many bits too many", p.refill(t, make([]bool, 100000)), api.ErrLong)
		p.check(t, "behind too many bits")
		wantError(t, "no bits", p.refill(t, nil), api.OK)
		wantError(t, "as many bits as fit", p.refill(t, make([]bool, 65536-n)), api.OK)
		p.check(t, "full")
		wantError(t, "a bit more", p.refill(t, make([]bool, 1)), api.ErrLong)
		wantError(t, "no bits", p.refill(t, nil), api.OK)
		p.check(t, "still full")
	}
}

// P6.20: bits that are added, in any parts, change no number that existed before, used or not.
func TestRefillChangesNoNumber(t *testing.T) {
	r := newRand()
	for range 100 {
		w := oneOf(r, widths)
		p := newPool(t, w, randomBits(r, r.IntN(200)))
		if p.Room() > 0 {
			seal(t, p, r.IntN(p.Room()), nil)
		}
		before := p.Copy()
		for range 3 {
			wantError(t, "Refill", p.Refill(randomBits(r, r.IntN(60))), api.OK)
		}
		for number := range before.Room() {
			m := randomBits(r, r.IntN(30))
			old, err := before.Seal(number, m)
			tag, e := p.Seal(number, m)
			wantOne(t, "Seal", tag, e, old, err)
		}
		want(t, "Used", p.Used(), api.OK, before.Used(), api.OK)
	}
}

// P6.14 and P6.20: a pool that was filled in parts is like one that had all bits from the beginning.
func TestRefillInParts(t *testing.T) {
	r := newRand()
	for _, w := range widths {
		bits := randomBits(r, 10*w+5)
		whole, parts := newPool(t, w, bits), newPool(t, w, nil)
		for rest := bits; len(rest) > 0; {
			n := min(len(rest), 1+r.IntN(w))
			wantError(t, "Refill", parts.Refill(rest[:n]), api.OK)
			rest = rest[n:]
		}
		for number := range whole.Room() + 1 {
			tag, e := parts.Seal(number, bits)
			other, err := whole.Seal(number, bits)
			wantOne(t, "Seal", tag, e, other, err)
		}
	}
}

// P6.19: what one pool seals, in any order, the other one opens, in any other order, once; no number is used twice.
func TestTwoPools(t *testing.T) {
	r := newRand()
	for range 60 {
		w := oneOf(r, widths)
		bits := randomBits(r, r.IntN(40*w))
		a, b := newPool(t, w, bits), newPool(t, w, bits)
		messages, tags := map[int][]bool{}, map[int]uint64{}
		for _, number := range r.Perm(a.Room()) {
			messages[number] = randomBits(r, r.IntN(50))
			tags[number] = seal(t, a, number, messages[number])
			_, e := a.Seal(number, messages[number])
			wantError(t, "Seal again", e, api.ErrOld)
			wantError(t, "Open where it was sealed", a.Open(number, messages[number], tags[number]), api.ErrOld)
		}
		for i, number := range r.Perm(b.Room()) {
			wantError(t, "Open with a wrong tag", b.Open(number, messages[number], tags[number]^1), api.ErrTag)
			wantError(t, "Open", b.Open(number, messages[number], tags[number]), api.OK)
			wantError(t, "Open again", b.Open(number, messages[number], tags[number]), api.ErrOld)
			_, e := b.Seal(number, messages[number])
			wantError(t, "Seal where it was opened", e, api.ErrOld)
			wantOne(t, "the used numbers", len(b.Used()), api.OK, i+1, api.OK)
		}
		want(t, "Used", a.Used(), api.OK, b.Used(), api.OK)
	}
}

// P6.18 and P6.12: a forged message is opened with just as many of the pools that fit what was seen as Forgeries says.
func TestForgedMessages(t *testing.T) {
	m, other := bitsOf("1011011001"), bitsOf("01110001000001010111011101001011011101010")
	for _, xor := range []uint64{0, 1, 200} {
		accepted := 0
		for key := range uint64(256) {
			tag := uint64(77)
			pad := tag ^ hash(8, key, m)
			bits, _ := algebra.Number(key<<8|pad, 16)
			wantError(t, "Open of what was sealed", newPool(t, 8, bits).Open(0, m, tag), api.OK)
			if newPool(t, 8, bits).Open(0, other, tag^xor) == api.OK {
				accepted++
			}
		}
		n, e := distil.Forgeries(8, m, 77, other, 77^xor)
		wantOne(t, "Forgeries", n, e, accepted, api.OK)
	}
}

// P6.10 to P6.13: the greatest pool, all of whose numbers are used.
func TestGreatestPool(t *testing.T) {
	p := newPool(t, 8, make([]bool, 65536))
	for i := range 4096 {
		seal(t, p, (i*1001+7)%4096, nil)
	}
	used := p.Used()
	for i := range 4096 {
		if used[i] != i {
			t.Fatalf("Used()[%d] is %d", i, used[i])
		}
	}
	for side := range 2 {
		n, e := p.Next(side)
		wantOne(t, "Next", n, e, 0, api.ErrShort)
	}
}

// R4: objects that no function returned are not valid.
func TestPoolsThatAreNotValid(t *testing.T) {
	valid := newPool(t, 8, make([]bool, 64))
	seal(t, valid, 2, nil)
	assigned := *valid
	overwritten := newPool(t, 8, make([]bool, 64))
	*overwritten = distil.Pool{}
	for _, p := range []*distil.Pool{nil, {}, new(distil.Pool), &assigned, overwritten} {
		for _, number := range []int{-1, 0, 2, 9} {
			tag, e := p.Seal(number, make([]bool, 65537))
			wantOne(t, "Seal", tag, e, 0, api.ErrNil)
			wantError(t, "Open", p.Open(number, nil, 0), api.ErrNil)
			n, e := p.Next(number)
			wantOne(t, "Next", n, e, 0, api.ErrNil)
		}
		wantError(t, "Refill", p.Refill(nil), api.ErrNil)
		wantError(t, "Refill", p.Refill(make([]bool, 100000)), api.ErrNil)
		if p.Room() != 0 || p.Used() != nil || p.Copy() != nil {
			t.Errorf("%d, %v, %v", p.Room(), p.Used(), p.Copy())
		}
	}
	want(t, "Used of the valid one", valid.Used(), api.OK, []int{2}, api.OK)
}

// The chapter's examples of pools.
func TestPoolExamples(t *testing.T) {
	p := newPool(t, 8, make([]bool, 40))
	wantOne(t, "Room", p.Room(), api.OK, 2, api.OK)
	for side := range 2 {
		n, e := p.Next(side)
		wantOne(t, "Next", n, e, side, api.OK)
	}
	_, e := p.Seal(2, nil)
	wantError(t, "Seal(2)", e, api.ErrShort)
	m := bitsOf("0110")
	seal(t, p, 0, m)
	_, e = p.Seal(0, m)
	wantError(t, "Seal(0) again", e, api.ErrOld)
	n, e := p.Next(0)
	wantOne(t, "Next(0)", n, e, 0, api.ErrShort)
	wantError(t, "Refill", p.Refill(make([]bool, 24)), api.OK)
	wantOne(t, "Room", p.Room(), api.OK, 4, api.OK)
	n, e = p.Next(0)
	wantOne(t, "Next(0)", n, e, 2, api.OK)
}
