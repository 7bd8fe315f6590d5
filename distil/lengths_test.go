package distil_test

import (
	"fmt"
	"math"
	"math/big"
	"math/rand/v2"
	"slices"
	"testing"

	"waveplate/algebra"
	"waveplate/api"
	"waveplate/distil"
)

// sizes are numbers of bits from 0 to just above the limit, close to each other at the edges.
var sizes = []int{-1, 0, 1, 2, 3, 8, 64, 255, 256, 257, 510, 511, 512, 513}

// seeds are seeds at the edges of their type.
var seeds = []uint64{0, 1, 7, 1 << 63, math.MaxUint64}

func checkCost(t *testing.T, n, errors int) {
	t.Helper()
	got, e := distil.Cost(n, errors)
	cost, err := modelCost(n, errors)
	wantOne(t, fmt.Sprintf("Cost(%d, %d)", n, errors), got, e, cost, err)
}

func checkLength(t *testing.T, n, errors int, l []api.Item, margin int) (int, api.Errno) {
	t.Helper()
	got, e := distil.Length(n, errors, l, margin)
	length, err := modelLength(n, errors, l, margin)
	wantOne(t, fmt.Sprintf("Length(%d, %d, %s, %d)", n, errors, short(l), margin), got, e, length, err)
	return length, err
}

func checkSeed(t *testing.T, n, out int, seed uint64) {
	t.Helper()
	got, e := distil.Seed(n, out, seed)
	bits, err := modelSeed(n, out, seed)
	want(t, fmt.Sprintf("Seed(%d, %d, %d)", n, out, seed), got, e, bits, err)
}

func checkAmplify(t *testing.T, block []bool, out int, seed uint64) api.Errno {
	t.Helper()
	got, e := distil.Amplify(block, out, seed)
	key, err := modelAmplify(block, out, seed)
	want(t, fmt.Sprintf("Amplify(%d bits, %d, %d)", len(block), out, seed), got, e, key, err)
	return err
}

func checkDistil(t *testing.T, block []bool, n, errors int, l []api.Item, margin int, seed uint64) api.Errno {
	t.Helper()
	got, e := distil.Distil(block, n, errors, l, margin, seed)
	key, err := modelDistil(block, n, errors, l, margin, seed)
	want(t, fmt.Sprintf("Distil(%d bits, %d, %d, %s, %d, %d)", len(block), n, errors, short(l), margin, seed), got, e, key, err)
	return err
}

// P6.6: all edges, and all numbers of errors among some numbers of bits.
func TestCost(t *testing.T) {
	for _, n := range slices.Concat(edgeInts, sizes) {
		for _, errors := range edgeInts {
			checkCost(t, n, errors)
		}
	}
	for _, n := range []int{0, 1, 2, 7, 8, 100, 512} {
		for errors := -2; errors <= n+2; errors++ {
			checkCost(t, n, errors)
		}
	}
}

// P6.6: costs that another program computed.
func TestKnownCosts(t *testing.T) {
	for _, x := range []struct{ n, errors, want int }{
		{512, 0, 1}, {512, 1, 10}, {512, 26, 145}, {512, 255, 511}, {512, 256, 512}, {512, 511, 512}, {512, 512, 513}, {100, 10, 45}, {1, 0, 1}, {1, 1, 2},
	} {
		n, e := distil.Cost(x.n, x.errors)
		wantOne(t, fmt.Sprint("the cost ", x), n, e, x.want, api.OK)
	}
}

// P6.6: any numbers and ledgers.
func TestLengths(t *testing.T) {
	r := newRand()
	met := tally{}
	zero, more := 0, 0
	for range 6000 {
		n, errors, margin := orEdge(r, r.IntN(513)), orEdge(r, r.IntN(20)), orEdge(r, r.IntN(60))
		length, e := checkLength(t, n, errors, anyLedger(r, 4, 60), margin)
		met[e]++
		switch {
		case e == api.OK && length == 0:
			zero++
		case e == api.OK:
			more++
		}
	}
	met.wantAll(t, api.OK, api.ErrRange, api.ErrMany, api.ErrArg)
	if zero < 500 || more < 500 {
		t.Errorf("%d times no length, %d times one", zero, more)
	}
}

// P6.6: the three numbers come before the ledger, which comes before the length.
func TestLengthErrors(t *testing.T) {
	ledgers := [][]api.Item{nil, {item(0, 1)}, {item(1, -1)}, manyItems(1001), {item(1, 65536)}}
	for _, n := range slices.Concat(sizes, edgeInts) {
		for _, l := range ledgers {
			checkLength(t, n, 3, l, 4)
			checkLength(t, 512, n, l, 4)
			checkLength(t, 512, 3, l, n)
			checkLength(t, n, n, l, n)
		}
	}
	_, e := checkLength(t, 513, 3, []api.Item{item(0, 1)}, 4)
	wantError(t, "a wrong number and a wrong ledger", e, api.ErrRange)
	_, e = checkLength(t, 512, 3, []api.Item{item(0, 1)}, 4)
	wantError(t, "a wrong ledger", e, api.ErrArg)
	// The total is far above all lengths.
	_, e = checkLength(t, 512, 512, slices.Repeat([]api.Item{item(2, 65536)}, 1000), 512)
	wantError(t, "the greatest total", e, api.OK)
}

// P6.6: a length just above 0, 0, and what would be below it.
func TestLengthIsNotBelowZero(t *testing.T) {
	for margin := range 70 {
		l := []api.Item{item(1, 5), item(3, 8)}
		n, e := distil.Length(64, 1, l, margin)
		wantOne(t, fmt.Sprint("with the margin ", margin), n, e, max(0, 64-7-13-margin), api.OK)
	}
}

// P6.7: all edges.
func TestSeedErrors(t *testing.T) {
	for _, n := range edgeInts {
		for _, out := range edgeInts {
			checkSeed(t, n, out, 5)
		}
		for _, size := range []int{0, 1, 9, 512, 513, 70000} {
			checkAmplify(t, make([]bool, size), n, 5)
		}
	}
	wantError(t, "a long block and a wrong length", checkAmplify(t, make([]bool, 513), -1, 0), api.ErrLong)
	wantError(t, "a wrong length", checkAmplify(t, make([]bool, 512), 513, 0), api.ErrRange)
}

// P6.7: sizes and seeds of all kinds.
func TestSeedsAndKeys(t *testing.T) {
	r := newRand()
	for _, n := range sizes[1 : len(sizes)-1] {
		for _, out := range sizes[1 : len(sizes)-1] {
			seed := r.Uint64()
			checkSeed(t, n, out, seed)
			checkAmplify(t, randomBits(r, n), out, seed)
		}
	}
	for _, seed := range seeds {
		checkSeed(t, 40, 30, seed)
		checkAmplify(t, randomBits(r, 40), 30, seed)
	}
	met := tally{}
	for range 2000 {
		met[checkAmplify(t, anyBlock(r), orEdge(r, r.IntN(40)), r.Uint64())]++
	}
	met.wantAll(t, api.OK, api.ErrLong, api.ErrRange)
}

// P6.7: seed bits and keys that another program computed.
func TestKnownKeys(t *testing.T) {
	for _, x := range []struct {
		n, out int
		seed   uint64
		want   string
	}{{10, 5, 1, "10001011111111"}, {3, 1, math.MaxUint64, "011"}, {0, 9, 7, "01110110"}, {9, 0, 7, "01110110"}, {0, 0, 7, ""}, {0, 1, 7, ""}, {1, 0, 7, ""}} {
		b, e := distil.Seed(x.n, x.out, x.seed)
		want(t, fmt.Sprint("Seed ", x), b, e, bitsOf(x.want), api.OK)
	}
	block := bitsOf(knownBlock)
	for _, x := range []struct {
		seed uint64
		want string
	}{{0, "1"}, {5, "011110000100"}, {math.MaxUint64, "10000001100011001111"}, {123456789, "111110001011111011100100010000111110000110001010110100001010"}} {
		b, e := distil.Amplify(block, len(x.want), x.seed)
		want(t, fmt.Sprint("Amplify ", x), b, e, bitsOf(x.want), api.OK)
	}
	for _, x := range []struct {
		n, errors, total, margin int
		seed                     uint64
		want                     string
	}{
		{48, 1, 20, 3, 77, "0100101001010101101"},
		{40, 2, 11, 0, 9, "1001110010001001100"},
		{48, 0, 0, 0, 2, "11111110000100110001001111000100000011110100001"},
	} {
		b, e := distil.Distil(block, x.n, x.errors, []api.Item{item(4, x.total)}, x.margin, x.seed)
		want(t, fmt.Sprint("Distil ", x), b, e, bitsOf(x.want), api.OK)
	}
}

// P6.8: any blocks, numbers and ledgers.
func TestDistil(t *testing.T) {
	r := newRand()
	met := tally{}
	for range 4000 {
		block := anyBlock(r)
		n := orEdge(r, len(block)-r.IntN(min(len(block), 9)+1))
		met[checkDistil(t, block, n, orEdge(r, r.IntN(3)), anyLedger(r, 2, 20), orEdge(r, r.IntN(10)), r.Uint64())]++
	}
	met.wantAll(t, api.OK, api.ErrLong, api.ErrRange, api.ErrMany, api.ErrArg, api.ErrShort)
}

// P6.8: each error in its turn.
func TestDistilErrors(t *testing.T) {
	wrong, full := []api.Item{item(7, 0)}, []api.Item{item(1, 65536)}
	for _, x := range []struct {
		size, n, errors int
		l               []api.Item
		margin          int
		want            api.Errno
	}{
		{513, -1, -1, wrong, -1, api.ErrLong},
		{513, 513, 0, nil, 0, api.ErrLong},
		{513, 10, 0, nil, 0, api.ErrLong},
		{40, -1, 0, wrong, 0, api.ErrRange},
		{40, 41, 0, wrong, 0, api.ErrRange},
		{40, 512, 0, nil, 0, api.ErrRange},
		{40, 40, -1, wrong, 0, api.ErrRange},
		{40, 40, 513, wrong, 0, api.ErrRange},
		{40, 40, 0, wrong, -1, api.ErrRange},
		{40, 40, 0, wrong, 513, api.ErrRange},
		{40, 40, 0, wrong, 0, api.ErrArg},
		{40, 40, 0, append(manyItems(1000), wrong...), 0, api.ErrMany},
		{40, 40, 0, full, 0, api.ErrShort},
		{40, 40, 0, nil, 39, api.ErrShort},
		{40, 40, 0, nil, 38, api.OK},
		{40, 1, 0, nil, 0, api.ErrShort},
		{40, 2, 0, nil, 0, api.OK},
		{0, 0, 0, nil, 0, api.ErrShort},
		{512, 512, 0, nil, 0, api.OK},
	} {
		block := slices.Repeat([]bool{true}, x.size)
		wantError(t, fmt.Sprint("Distil ", x.size, x.n, x.errors, short(x.l), x.margin), checkDistil(t, block, x.n, x.errors, x.l, x.margin, 3), x.want)
	}
}

// P6.8: all bits of the block go into the key, also those that do not count.
func TestAllBitsGoIntoTheKey(t *testing.T) {
	block := make([]bool, 60)
	key, e := distil.Distil(block, 30, 0, nil, 0, 8)
	want(t, "of no true bits", key, e, make([]bool, 29), api.OK)
	for i := range block {
		other, e := distil.Distil(flip(block, i), 30, 0, nil, 0, 8)
		if e != api.OK || slices.Equal(other, key) {
			t.Errorf("the bit %d does not change the key: %d", i, e)
		}
	}
}

// times2 returns a number times 2 to a power.
func times2(n *big.Int, power int) *big.Int { return new(big.Int).Lsh(n, uint(power)) }

// P6.16: what a length permits, and that it grows with none of its arguments but n.
func TestLengthProperties(t *testing.T) {
	r := newRand()
	above := 0
	for range 2000 {
		n, errors, margin, l := r.IntN(513), r.IntN(30), r.IntN(40), randomLedger(r, 4, 40)
		length, e := distil.Length(n, errors, l, margin)
		wantError(t, "Length", e, api.OK)
		if length > 0 {
			above++
			total, _ := modelTotal(l)
			ball := new(big.Int)
			for i := range min(errors, n) + 1 {
				ball.Add(ball, new(big.Int).Binomial(int64(n), int64(i)))
			}
			if times2(ball, length+total+margin).Cmp(times2(big.NewInt(1), n)) >= 0 {
				t.Errorf("the length %d of %d, %d, %s, %d is too great", length, n, errors, short(l), margin)
			}
		}
		for _, x := range []struct {
			errors, margin int
			l              []api.Item
		}{{errors + r.IntN(5), margin, l}, {errors, margin + r.IntN(5), l}, {errors, margin, append(slices.Clone(l), randomLedger(r, 2, 5)...)}} {
			if less, e := distil.Length(n, x.errors, x.l, x.margin); e != api.OK || less > length {
				t.Errorf("the length %d of %d, %d, %s, %d grows to %d", length, n, errors, short(l), margin, less)
			}
		}
	}
	if above < 500 {
		t.Errorf("only %d lengths above 0", above)
	}
}

// countEqualKeys returns for how many triples of seed bits and two of the blocks the keys are equal: for two equal blocks, and for two different ones.
func countEqualKeys(t *testing.T, blocks [][]bool, out int) (same, other int) {
	for _, seed := range allBits(max(0, len(blocks[0])+out-1)) {
		var keys [][]bool
		for _, block := range blocks {
			key, e := algebra.Toeplitz(seed, block, out)
			wantError(t, "Toeplitz", e, api.OK)
			keys = append(keys, key)
		}
		for i := range blocks {
			for j := range blocks {
				switch {
				case !slices.Equal(keys[i], keys[j]):
				case i == j:
					same++
				default:
					other++
				}
			}
		}
	}
	return same, other
}

// P6.17: with as many seed bits as Seed returns, different blocks have the same key just as often as they have to.
func TestMixing(t *testing.T) {
	r := newRand()
	for n := 1; n <= 5; n++ {
		for out := range 5 {
			all := allBits(n)
			blocks := all[:0]
			for _, i := range r.Perm(len(all))[:1+r.IntN(len(all))] {
				blocks = append(blocks, allBits(n)[i])
			}
			bits, _ := distil.Seed(n, out, 1)
			s, m := len(bits), len(blocks)
			same, other := countEqualKeys(t, blocks, out)
			if same != m<<s || other != m*(m-1)<<s>>out {
				t.Errorf("%d blocks of %d bits, keys of %d: %d and %d triples", m, n, out, same, other)
			}
		}
	}
}

// P6.17: the amplified key of a block is its Toeplitz hash with the seed bits, whatever the seed is.
func TestKeysAreToeplitzHashes(t *testing.T) {
	r := newRand()
	for range 500 {
		block, out, seed := randomBits(r, r.IntN(80)), r.IntN(80), anySeed(r)
		bits, e := distil.Seed(len(block), out, seed)
		wantError(t, "Seed", e, api.OK)
		hash, e := algebra.Toeplitz(bits, block, out)
		wantError(t, "Toeplitz", e, api.OK)
		key, e := distil.Amplify(block, out, seed)
		want(t, "Amplify", key, e, hash, api.OK)
	}
}

func anySeed(r *rand.Rand) uint64 {
	if rarely(r, 4) {
		return oneOf(r, seeds)
	}
	return r.Uint64()
}

// The chapter's examples of lengths.
func TestLengthExamples(t *testing.T) {
	for _, x := range []struct{ n, errors, want int }{{8, 1, 4}, {8, 0, 1}, {8, 8, 9}} {
		n, e := distil.Cost(x.n, x.errors)
		wantOne(t, "Cost", n, e, x.want, api.OK)
	}
	l := []api.Item{item(api.ItemHash, 16)}
	n, e := distil.Length(64, 0, l, 10)
	wantOne(t, "with the margin 10", n, e, 37, api.OK)
	n, e = distil.Length(64, 0, l, 60)
	wantOne(t, "with the margin 60", n, e, 0, api.OK)
}
