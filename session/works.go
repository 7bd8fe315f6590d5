package session

import (
	"slices"

	"waveplate/algebra"
	"waveplate/api"
	"waveplate/distil"
	"waveplate/reconcile"
	"waveplate/sift"
)

// work is what a station does with the words of a letter that it takes. It returns the letters that were sent.
type work func(x *Station, words []int) []api.Letter

// works returns the work on each kind of letters. There is no kind 0.
func works() [12]work {
	return [...]work{
		api.LetterHead:   (*Station).alignHead,
		api.LetterHeard:  (*Station).keepSlots,
		api.LetterKept:   (*Station).showSample,
		api.LetterShown:  (*Station).judgeSample,
		api.LetterGo:     (*Station).beginCascade,
		api.LetterAsk:    (*Station).reply,
		api.LetterReply:  (*Station).tellCascade,
		api.LetterHash:   (*Station).confirm,
		api.LetterAccept: (*Station).acceptLast,
		api.LetterDone:   (*Station).end,
		api.LetterStop:   (*Station).heed,
	}
}

// alignHead is R's work on Head.
func (x *Station) alignHead(words []int) []api.Letter {
	insistOn(words, x.setup.Head, 7)
	shift, e := sift.Align(each(words, headPulse), x.clicks, x.setup.Need)
	if e != api.OK {
		return x.stop(api.ErrSync)
	}
	x.shift = shift
	heard, _ := sift.Announce(x.clicks, shift, x.setup.Head, x.setup.Slots)
	x.wait(api.LetterKept)
	return x.send(api.LetterHeard, each(heard, heardWord)...)
}

// keepSlots is S's work on Heard.
func (x *Station) keepSlots(words []int) []api.Letter {
	kept, e := sift.Match(x.pulses, each(words, heardIn), x.setup.Head)
	insist(e == api.OK)
	signals, _ := sift.Class(x.pulses, kept, api.Signal)
	if len(signals) < x.setup.Block {
		return x.stop(api.ErrShort)
	}
	x.kept, x.slots = kept, signals[:x.setup.Block]
	said := slices.Clone(x.slots)
	if x.hasDecoys() {
		for _, slot := range kept {
			if class := x.pulses[slot].Class; class != api.Signal {
				x.decoys = append(x.decoys, slot)
				said = append(said, decoyWord(slot, class))
			}
		}
	}
	x.wait(api.LetterShown)
	return x.send(api.LetterKept, said...)
}

// showSample is R's work on Kept.
func (x *Station) showSample(words []int) []api.Letter {
	n := x.setup.Block
	insist(len(words) == n || len(words) > n && x.hasDecoys())
	bits, e := sift.Received(x.clicks, x.shift, words[:n])
	insist(e == api.OK)
	decoys, e := sift.Received(x.clicks, x.shift, each(words[n:], decoyIn))
	insist(e == api.OK)
	sample, rest := x.divide(bits)
	x.block = rest
	x.wait(api.LetterGo)
	return x.send(api.LetterShown, each(slices.Concat(sample, decoys), number)...)
}

// judgeSample is S's work on Shown.
func (x *Station) judgeSample(words []int) []api.Letter {
	k := x.setup.Sample
	insist(len(words) == k+len(x.decoys))
	shown := bitsIn(words)
	sent, _ := sift.Sent(x.pulses, x.slots)
	sample, rest := x.divide(sent)
	seen, _ := algebra.Distance(sample, shown[:k])
	if sift.Judge(k, seen, x.setup.Limit) != api.OK {
		return x.stop(api.ErrNoise)
	}
	estimate, _ := sift.Rate(x.setup.Block, k, seen, x.setup.Eps)
	n, e := x.counting(shown[k:])
	if e != api.OK {
		return x.stop(api.ErrNone)
	}
	x.n, x.t, x.block = n, estimate.Rest, rest
	x.wait(api.LetterAsk, api.LetterHash)
	return x.send(api.LetterGo, x.n, x.t)
}

// counting returns how many bits of the rest count: with decoys those that come of single photons, for which R has shown its bits in the decoy slots.
func (x *Station) counting(shown []bool) (int, api.Errno) {
	if !x.hasDecoys() {
		return x.restBits(), api.OK
	}
	// R's bits in the other slots are not known; they do not matter.
	bits, _ := sift.Sent(x.pulses, x.kept)
	for i, slot := range x.decoys {
		at, _ := slices.BinarySearch(x.kept, slot)
		bits[at] = shown[i]
	}
	gains, e := sift.Gains(x.pulses, x.kept, bits, x.setup.Head)
	if e != api.OK {
		return 0, e
	}
	return sift.Singles(x.setup.Optics, gains, x.restBits())
}

// hasDecoys reports whether there are decoy slots.
func (x *Station) hasDecoys() bool { return x.setup.Optics.Kind == api.Decoy }

// beginCascade is R's work on Go.
func (x *Station) beginCascade(words []int) []api.Letter {
	insistOn(words, 2, x.restBits())
	x.n, x.t = words[0], words[1]
	x.cascade, _ = reconcile.New(x.public().plan, x.block)
	return x.goOn()
}

// goOn sends the next question of the cascade, or the digest of the string that it has made.
func (x *Station) goOn() []api.Letter {
	if x.cascade.Failed() {
		return x.stop(api.ErrEqual)
	}
	if q, open, _ := x.cascade.Ask(); open {
		x.wait(api.LetterReply)
		return x.send(api.LetterAsk, q.Pass, q.From, q.To)
	}
	x.block = x.cascade.Bits()
	x.enter(api.ItemHash, x.setup.Width)
	digest, _ := distil.Digest(x.setup.Width, x.public().hash, x.block)
	x.wait(api.LetterAccept)
	return x.send(api.LetterHash, int(digest>>wordBits), int(digest%(1<<wordBits)))
}

// reply is S's work on Ask.
func (x *Station) reply(words []int) []api.Letter {
	insist(len(words) == 3)
	q := api.Question{Pass: words[0], From: words[1], To: words[2]}
	parity, e := reconcile.Reply(x.public().plan, x.block, q)
	insist(e == api.OK)
	x.enter(api.ItemParity, 1)
	return x.send(api.LetterReply, number(parity))
}

// tellCascade is R's work on Reply.
func (x *Station) tellCascade(words []int) []api.Letter {
	insist(len(words) == 1)
	parity := bitsIn(words)[0]
	x.enter(api.ItemParity, 1)
	x.cascade.Tell(parity)
	return x.goOn()
}

// confirm is S's work on Hash.
func (x *Station) confirm(words []int) []api.Letter {
	insist(len(words) == 2)
	digest := uint64(words[0])<<wordBits | uint64(words[1])
	x.enter(api.ItemHash, x.setup.Width)
	if distil.Confirm(x.setup.Width, x.public().hash, x.block, digest) != api.OK {
		return x.stop(api.ErrEqual)
	}
	if x.accept() != api.OK {
		return x.stop(api.ErrShort)
	}
	x.wait(api.LetterDone)
	return x.send(api.LetterAccept)
}

// acceptLast is R's work on Accept.
func (x *Station) acceptLast(words []int) []api.Letter {
	insist(len(words) == 0)
	if x.accept() != api.OK {
		return x.stop(api.ErrShort)
	}
	x.phase = api.Ended
	return x.send(api.LetterDone)
}

// end is S's work on Done.
func (x *Station) end(words []int) []api.Letter {
	insist(len(words) == 0)
	x.phase = api.Ended
	return nil
}

// heed is the work of both on Stop.
func (x *Station) heed(words []int) []api.Letter {
	insist(len(words) == 1 && within(words[0], int(api.ErrNil), int(api.ErrEqual)))
	if x.hasAccepted() {
		x.phase = api.Ended
		return nil
	}
	x.halt(api.Errno(words[0]))
	return nil
}
