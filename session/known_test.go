package session_test

import (
	"math"
	"math/big"
	"testing"

	"waveplate/algebra"
	"waveplate/api"
	"waveplate/session"
)

// What another program computed, which was written from the document alone: from the light to the tags of the letters and the key.

// known is a session of a pair, of whose sessions before only the first letter was sent, and lost.
type known struct {
	name    string
	setup   api.Setup
	rules   []api.Rule
	pool    []bool
	light   uint64
	session int

	letters        int
	sum            uint64 // of all numbers of all letters, with weights
	n, t, parities int
	block, key     string
	reason         api.Errno // if there is no key
}

func withNoise() api.Setup {
	s := example()
	s.Limit, s.Width, s.Plan = frac(1, 8), 8, api.Cascade{Passes: 3, Block: 12, Seed: 5}
	return s
}

func withNarrowDecoys() api.Setup {
	s := withDecoys()
	s.Width = 8
	return s
}

// withPairs returns a setup with pairs, whose seeds overflow.
func withPairs() api.Setup {
	s := example()
	s.Optics = api.Optics{Kind: api.Pairs, Classes: [3]int{0, 0, 256}, Photons: [3][4]int{{256}, {256}, {20, 200, 36}}, Eta: 230, Dark: 1}
	s.Slots, s.Limit, s.Plan = 900, frac(1, 4), api.Cascade{Passes: 3, Block: 10, Seed: 77}
	s.Width, s.Margin, s.Seed = 32, 0, math.MaxUint64
	return s
}

func withNeed(need int) api.Setup {
	s := example()
	s.Need = need
	return s
}

// drawnBits returns n bits that are drawn from a seed.
func drawnBits(seed uint64, n int) []bool {
	b, _ := algebra.New(seed).Bits(n)
	return b
}

func knownSessions() []known {
	return []known{
		{
			name: "example", setup: example(), rules: nil, pool: examplePool, light: 2, session: 1,
			letters: 30, sum: 539372343479981175, n: 100, t: 4, parities: 11,
			block: "0011001001010101110000100001010101011010001110100111001010011010100001010011100011000000100001110101",
			key:   "01011110001111111011011010010000100101011101111",
		},
		{
			name: "example, session 3", setup: example(), rules: nil, pool: examplePool, light: 2, session: 3,
			letters: 30, sum: 1356141780489456581, n: 100, t: 4, parities: 11,
			block: "0001000111010000110010011110001111001101110101110111011111110010000001111100000101110001001001001111",
			key:   "10001001110011101000000100110000001001101011001",
		},
		{
			name: "noise", setup: withNoise(), rules: []api.Rule{{Kind: api.RuleNoise, A: 6}, {Kind: api.RuleShift, A: 7}}, pool: drawnBits(9, 40000), light: 2, session: 2,
			letters: 66, sum: 103401460724702934, n: 100, t: 7, parities: 29,
			block: "1011100110110101111100100110100100000001111000101010100000100011100011101000101001011010110000011100",
			key:   "110110001110101011101000",
		},
		{
			name: "decoys", setup: withDecoys(), rules: []api.Rule{{Kind: api.RuleLoss, A: 20}, {Kind: api.RuleShift, A: 3, B: 1}}, pool: drawnBits(10, 40000), light: 5, session: 1,
			letters: 48, sum: 1777264710540426571, n: 166, t: 3, parities: 20,
			block: "10010111110011101100001100100011001100010001011000001111011000111000011110010110010011001000100111000000110000100010011110010011110001010111110111010111111011111010000001000001100110000101010100111001",
			key:   "1011001010110111111010011011101000110011010011111101100011100011101111111010011100101011100101011000101011",
		},
		{
			name: "decoys, noise", setup: withNarrowDecoys(), rules: []api.Rule{{Kind: api.RuleNoise, A: 3}}, pool: drawnBits(11, 40000), light: 6, session: 2,
			letters: 56, sum: 1793250395243411348, n: 149, t: 3, parities: 24,
			block: "00010001000111001111110111001100000111100111000100000111101011011001100000001011000001111111001101001000101111110010101011011011110110011010100011011011110101010010011110110100100111010111010100000001",
			key:   "110100010100000101101111011010101011010010001101110111010010000110001000001001110111000110111",
		},
		{
			name: "pairs", setup: withPairs(), rules: []api.Rule{{Kind: api.RuleNoise, A: 2}, {Kind: api.RuleShift, A: 16}}, pool: drawnBits(12, 65536), light: math.MaxUint64, session: 1,
			letters: 44, sum: 215408115522276868, n: 100, t: 4, parities: 18,
			block: "1101100011100000001111100110011111101010110010001101100110000001000001010101110101011000011100011110",
			key:   "1000001010101011001101001100",
		},
		{
			name: "much noise", setup: example(), rules: []api.Rule{{Kind: api.RuleNoise, A: 40}}, pool: drawnBits(12, 9000), light: 3, session: 1,
			letters: 5, sum: 1154519417762126812, reason: 18,
		},
		{
			name: "no sync", setup: withNeed(60), rules: nil, pool: drawnBits(12, 9000), light: 3, session: 1,
			letters: 2, sum: 1942206631381096040, reason: 17,
		},
		{
			name: "loss", setup: example(), rules: []api.Rule{{Kind: api.RuleLoss, A: 200}}, pool: drawnBits(12, 9000), light: 3, session: 1,
			letters: 3, sum: 1077521605462619223, reason: 14,
		},
		{
			name: "all measured", setup: example(), rules: []api.Rule{{Kind: api.RuleResend, To: 499, A: 256}}, pool: examplePool, light: 2, session: 1,
			letters: 5, sum: 1653923298029897336, reason: 18,
		},
	}
}

// play starts sessions, of which the letters are lost, and then the one with a number, and returns its letters in the order in which they were sent.
func play(t *testing.T, p *session.Pair, number int) []api.Letter {
	t.Helper()
	for range number - 1 {
		do(t, p, api.OK, api.EventStart)
		do(t, p, api.OK, api.EventDrop, 0)
	}
	do(t, p, api.OK, api.EventStart)
	var sent []api.Letter
	for l := p.Flying(); len(l) > 0; l = p.Flying() {
		sent = append(sent, l[0].Letter)
		do(t, p, api.OK, api.EventDeliver)
	}
	return sent
}

// sumOf returns the sum of all numbers of letters, with weights.
func sumOf(l []api.Letter) uint64 {
	sum, prime := new(big.Int), big.NewInt(1<<61-1)
	for _, x := range l {
		numbers := append([]int{x.Session, x.Kind, x.Number, len(x.Words)}, x.Words...)
		for _, n := range append(numbers, int(x.Tag)) {
			sum.Mul(sum, big.NewInt(1000003))
			sum.Add(sum, big.NewInt(int64(n)))
			sum.Mod(sum, prime)
		}
	}
	return sum.Uint64()
}

// wantKnown fails unless a station has the record of a known session, or was stopped as it says.
func wantKnown(t *testing.T, k known, x *session.Station) {
	t.Helper()
	if k.reason != api.OK {
		wantPhase(t, k.name, x, api.Stopped, k.reason, 0)
		return
	}
	ledger := []api.Item{{Kind: api.ItemParity, Bits: k.parities}, {Kind: api.ItemHash, Bits: k.setup.Width}}
	record := api.Record{Session: k.session, Block: bitsOf(k.block), N: k.n, T: k.t, Ledger: ledger, Key: bitsOf(k.key)}
	if got := x.Records(); x.Phase() != api.Ended || !sameRecords(got, []api.Record{record}) {
		t.Errorf("%s: phase %d, reason %d, records %v, want %v", k.name, x.Phase(), x.Reason(), got, record)
	}
}

// P7.3, P7.4, P7.9, P7.17: whole sessions, letter by letter.
func TestKnownSessions(t *testing.T) {
	for _, k := range knownSessions() {
		p := newPair(t, k.setup, k.rules, k.pool, k.light)
		sent := play(t, p, k.session)
		if sum := sumOf(sent); len(sent) != k.letters || sum != k.sum {
			t.Errorf("%s: %d letters with the sum %d, want %d, %d", k.name, len(sent), sum, k.letters, k.sum)
		}
		for side := range 2 {
			wantKnown(t, k, p.Station(side))
		}
	}
}
