package session

import (
	"slices"

	"waveplate/algebra"
	"waveplate/api"
	"waveplate/distil"
	"waveplate/reconcile"
	"waveplate/sift"
)

// run is what a station knows of its session, and its phase: what a crash replaces.
type run struct {
	phase  int
	reason api.Errno   // why the session was stopped
	waits  []int       // for letters of these kinds
	sent   *api.Letter // the last one, if there is one
	taken  *api.Letter // likewise
	ticks  int         // how long the station has waited
	ledger []api.Item

	pulses []api.Pulse // the sender's
	kept   []int       // the kept slots of all classes
	decoys []int       // those of them that are decoy slots
	slots  []int       // the block slots

	clicks  []api.Click // the receiver's
	shift   int
	cascade *reconcile.Machine

	block []bool // what is left without the sample
	n, t  int    // how many bits of the block count, and how many may be wrong
}

// wait makes the station wait for letters of these kinds.
func (x *Station) wait(kinds ...int) { x.waits = kinds }

// waitsFor reports whether the station waits for letters of a kind. A letter that stops the session is always waited for.
func (x *Station) waitsFor(kind int) bool {
	return kind == api.LetterStop || slices.Contains(x.waits, kind)
}

// send sends a letter, or stops the session if the pool is too short for it.
func (x *Station) send(kind int, words ...int) []api.Letter {
	number, e := x.pool.Next(x.side)
	if e != api.OK {
		x.halt(e)
		return nil
	}
	l := api.Letter{Session: x.last, Kind: kind, Number: number, Words: words}
	l.Tag, _ = x.pool.Seal(number, bitsOf(l))
	x.sent = &l
	return x.sendAgain()
}

// sendAgain sends the last letter, if there is one.
func (x *Station) sendAgain() []api.Letter {
	if x.sent == nil {
		return nil
	}
	return []api.Letter{cloneLetter(*x.sent)}
}

// answerAgain sends what was the answer to a letter that comes once more. Letters of kinds that the other station sends again by itself, when it misses the answer, are answered.
func (x *Station) answerAgain(kind int) []api.Letter {
	switch kind {
	case api.LetterHeard, api.LetterShown, api.LetterAsk, api.LetterHash, api.LetterAccept:
		return x.sendAgain()
	}
	return nil
}

// halt stops the session without a letter.
func (x *Station) halt(reason api.Errno) { x.phase, x.reason = api.Stopped, reason }

// stop stops the session, and tells the other station why.
func (x *Station) stop(reason api.Errno) []api.Letter {
	x.halt(reason)
	return x.send(api.LetterStop, int(reason))
}

// public returns the public numbers of the session.
func (x *Station) public() publicNumbers { return publicOf(x.setup, x.last) }

// divide returns the bits of the sample and of the rest.
func (x *Station) divide(bits []bool) (sample, rest []bool) {
	in, out, _ := sift.Sample(x.setup.Block, x.setup.Sample, x.public().sample)
	sample, _ = algebra.Pick(bits, in)
	rest, _ = algebra.Pick(bits, out)
	return sample, rest
}

// restBits returns how many bits the rest has.
func (x *Station) restBits() int { return x.setup.Block - x.setup.Sample }

// enter enters bits that were disclosed into the ledger. There are never too many: each item but the last one needs a number of the pool.
func (x *Station) enter(kind, bits int) { x.ledger, _ = distil.Enter(x.ledger, kind, bits) }

// accept makes a key of the block, and adds a record of it.
func (x *Station) accept() api.Errno {
	key, e := distil.Distil(x.block, x.n, x.t, x.ledger, x.setup.Margin, x.public().amplify)
	if e != api.OK {
		return e
	}
	x.records = append(x.records, api.Record{Session: x.last, Block: x.block, N: x.n, T: x.t, Ledger: x.ledger, Key: key})
	return api.OK
}
