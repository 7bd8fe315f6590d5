package session_test

import (
	"fmt"
	"slices"
	"testing"

	"waveplate/api"
	"waveplate/session"
)

// newSession returns stations that have begun the session 1 with a setup, without rules.
func newSession(t *testing.T, s api.Setup) *talk {
	t.Helper()
	c := newTalk(t, s, nil, drawnBits(21, 40000), 77)
	c.begin("first", 1, 1, nil, c.flight.Clicks)
	c.begin("first", 0, 1, c.flight.Pulses, nil)
	return c
}

// until lets letters be taken until one of a kind is under way, and returns it.
func (c *talk) until(kind int) api.Flying {
	c.t.Helper()
	for len(c.under) > 0 {
		f := c.under[0]
		if f.Letter.Kind == kind {
			return f
		}
		c.under = c.under[1:]
		c.take("until", f.To, f.Letter)
	}
	c.t.Fatalf("no letter of the kind %d", kind)
	return api.Flying{}
}

// with returns a letter with other words and its right tag.
func (c *talk) with(l api.Letter, words ...int) api.Letter {
	l.Words = words
	return tagged(l, c.s, c.pool)
}

// wantStopped fails unless a copy of a station is stopped for a reason by a letter with these words, and says so.
func (c *talk) wantStopped(what string, f api.Flying, reason api.Errno, words ...int) *session.Station {
	c.t.Helper()
	x := c.x[f.To].Copy()
	letter := c.with(f.Letter, words...)
	records := len(x.Records())
	l, e := x.Take(letter)
	if e != api.OK || len(l) != 1 || l[0].Kind != api.LetterStop || !slices.Equal(l[0].Words, []int{int(reason)}) || l[0].Session != letter.Session || l[0].Number%2 != f.To {
		c.t.Errorf("%s: sent %s, %d", what, showLetters(l), e)
		return x
	}
	wantPhase(c.t, what, x, api.Stopped, reason, records)
	if !slices.Contains(x.Used(), letter.Number) || !slices.Contains(x.Used(), l[0].Number) {
		c.t.Errorf("%s: the numbers %d and %d are not used: %v", what, letter.Number, l[0].Number, x.Used())
	}
	// The letter was taken: it is not refused when it comes again.
	again, e := x.Take(letter)
	var want []api.Letter
	if slices.Contains([]int{api.LetterHeard, api.LetterShown, api.LetterAsk, api.LetterHash, api.LetterAccept}, letter.Kind) {
		want = l
	}
	wantLetters(c.t, what+", again", again, e, want, api.OK)
	return x
}

// wantSent fails unless a copy of a station answers a letter with these words by one of a kind; it returns that letter's words.
func (c *talk) wantSent(what string, f api.Flying, kind int, words ...int) []int {
	c.t.Helper()
	x := c.x[f.To].Copy()
	l, e := x.Take(c.with(f.Letter, words...))
	if e != api.OK || len(l) != 1 || l[0].Kind != kind {
		c.t.Errorf("%s: sent %s, %d, phase %d, reason %d", what, showLetters(l), e, x.Phase(), x.Reason())
		return nil
	}
	return l[0].Words
}

// changed returns a list with another element at an index.
func changed(l []int, at, n int) []int {
	l = slices.Clone(l)
	l[at] = n
	return l
}

// P7.4: R aligns the head, and says what it heard.
func TestHead(t *testing.T) {
	c := newSession(t, withNeed(20))
	f := c.until(api.LetterHead)
	w := f.Letter.Words
	for i, word := range w {
		p := c.flight.Pulses[i]
		if word/2%2 != p.Basis || (word%2 == 1) != p.Bit || word > 3 {
			t.Errorf("the word %d of the head is %d", i, word)
		}
	}
	for what, words := range map[string][]int{
		"no head": nil, "a short head": w[1:], "a long head": append(slices.Clone(w), 0), "a word 8": changed(w, 79, 8), "a great word": changed(w, 0, 65535),
	} {
		c.wantStopped(what, f, api.ErrForm, words...)
	}
	unseen, wrong := slices.Clone(w), slices.Clone(w)
	for i := range w {
		unseen[i] |= 4
		wrong[i] ^= 1
	}
	c.wantStopped("nothing seen", f, api.ErrSync, unseen...)
	c.wantStopped("all bits wrong", f, api.ErrSync, wrong...)
	heard := c.wantSent("the head", f, api.LetterHeard, w...)
	var want []int
	for slot := 80; slot < 500; slot++ {
		want = append(want, 2*slot+c.flight.Clicks[slot].Basis)
	}
	if !slices.Equal(heard, want) {
		t.Errorf("heard: %s, want %s", short(heard), short(want))
	}
	// Words that are not seen do not count, but they may be there.
	c.wantSent("one not seen", f, api.LetterHeard, changed(w, 3, w[3]|4)...)
}

// P7.3, P7.4: the sender's words say what it has not seen; a shift is kept, so that all of R's slots are those of S.
func TestHeadOfPairs(t *testing.T) {
	s := withPairs()
	c := newTalk(t, s, []api.Rule{{Kind: api.RuleShift, A: 4}}, drawnBits(21, 65536), 78)
	c.begin("first", 1, 1, nil, c.flight.Clicks)
	c.begin("first", 0, 1, c.flight.Pulses, nil)
	f := c.until(api.LetterHead)
	unseen := 0
	for i, word := range f.Letter.Words {
		if (word >= 4) == c.flight.Pulses[i].Seen {
			t.Errorf("the word %d is %d", i, word)
		}
		unseen += word / 4
	}
	if unseen == 0 {
		t.Error("all pulses of the head were seen")
	}
	heard := c.wantSent("the head", f, api.LetterHeard, f.Letter.Words...)
	for _, word := range heard {
		if slot := word / 2; slot < 80 || slot+4 >= 900 || c.flight.Clicks[slot+4].Basis != word%2 {
			t.Errorf("heard %d", word)
		}
	}
	if len(heard) < 500 {
		t.Errorf("%d slots were heard", len(heard))
	}
}

// P7.4: S keeps the slots with its bases.
func TestHeard(t *testing.T) {
	c := newSession(t, example())
	f := c.until(api.LetterHeard)
	w := f.Letter.Words
	var kept []int
	last := 0
	for i, word := range w {
		if c.flight.Pulses[word/2].Basis == word%2 {
			kept = append(kept, word/2)
			if len(kept) == 140 {
				last = i
			}
		}
	}
	for what, words := range map[string][]int{
		"a slot of the head": slices.Insert(slices.Clone(w), 0, 2*79), "a slot behind the end": append(slices.Clone(w), 1000), "a great word": append(slices.Clone(w), 65535),
		"a slot twice": slices.Insert(slices.Clone(w), 1, w[0]), "with both bases": slices.Insert(slices.Clone(w), 1, w[0]^1), "another order": slices.Concat(w[1:], w[:1]),
	} {
		c.wantStopped(what, f, api.ErrForm, words...)
	}
	c.wantStopped("nothing heard", f, api.ErrShort)
	c.wantStopped("not enough heard", f, api.ErrShort, w[:last]...)
	wrong := slices.Clone(w)
	for i := range wrong {
		wrong[i] ^= 1
	}
	// The bases are random, so the other ones are right for other slots.
	if got := c.wantSent("the other bases", f, api.LetterKept, wrong...); slices.ContainsFunc(got, func(slot int) bool { return slices.Contains(kept, slot) }) {
		t.Errorf("with the other bases the same slots are kept: %v", got)
	}
	for what, words := range map[string][]int{"all": w, "just enough": w[:last+1]} {
		if got := c.wantSent(what, f, api.LetterKept, words...); !slices.Equal(got, kept[:140]) {
			t.Errorf("%s: kept %v, want %v", what, got, kept[:140])
		}
	}
}

// P7.4: with decoys, S says which of the kept slots are of the other classes; without, it does not.
func TestHeardWithDecoys(t *testing.T) {
	for kind, s := range map[int]api.Setup{api.Decoy: withDecoys(), api.Prepare: withDecoys()} {
		if kind == api.Prepare {
			s.Optics = example().Optics
		}
		c := newTalk(t, s, nil, drawnBits(21, 40000), 78)
		pulses := slices.Clone(c.flight.Pulses)
		for i := range pulses {
			pulses[i].Class = min(i/7%4, api.Signal) // these are not of the arrangement, but valid
		}
		c.begin("first", 1, 1, nil, c.flight.Clicks)
		c.begin("first", 0, 1, pulses, nil)
		f := c.until(api.LetterHeard)
		var signals, others []int
		for _, word := range f.Letter.Words {
			switch p := pulses[word/2]; {
			case p.Basis != word%2:
			case p.Class == api.Signal:
				signals = append(signals, word/2)
			case p.Class == api.Weak:
				others = append(others, word/2*2+1)
			default:
				others = append(others, word/2*2)
			}
		}
		want := slices.Clone(signals[:240])
		if kind == api.Decoy {
			want = append(want, others...)
		}
		if got := c.wantSent("the words", f, api.LetterKept, f.Letter.Words...); !slices.Equal(got, want) || len(others) < 100 {
			t.Errorf("source %d: kept %s, want %s", kind, short(got), short(want))
		}
		// Of the class Signal there are too few, whatever the other classes have.
		c.wantStopped("not enough", f, api.ErrShort, f.Letter.Words[:700]...)
	}
}

// P7.4: R shows the sample, and the bits of the decoy slots.
func TestKept(t *testing.T) {
	c := newSession(t, example())
	f := c.until(api.LetterKept)
	w := f.Letter.Words
	for what, words := range map[string][]int{
		"nothing": nil, "a slot less": w[:139], "a slot more": append(slices.Clone(w), 499*2), "another order": slices.Concat(w[1:], w[:1]), "a slot twice": changed(w, 1, w[0]),
		"a slot behind the end": changed(w, 139, 500), "a great word": changed(w, 139, 65535),
	} {
		c.wantStopped(what, f, api.ErrForm, words...)
	}
	order := drawnSample(c.s, 1)
	for what, words := range map[string][]int{"the slots": w, "others": changed(w, 0, 0), "the last one": changed(w, 139, 499)} {
		var want []int
		for _, i := range order {
			want = append(want, c.flight.Clicks[words[i]].Kind-api.Zero)
		}
		if got := c.wantSent(what, f, api.LetterShown, words...); !slices.Equal(got, want) {
			t.Errorf("%s: shown %v, want %v", what, got, want)
		}
	}
}

// drawnSample returns the indexes of the sample of a session.
func drawnSample(s api.Setup, number int) []int {
	seed, _, _, _ := (&twin{s: s, last: number}).publics()
	return sampleOf(seed, s.Block, s.Sample)
}

// P7.4: with decoys, there are words for the decoy slots behind those for the block.
func TestKeptWithDecoys(t *testing.T) {
	c := newSession(t, withDecoys())
	f := c.until(api.LetterKept)
	w := f.Letter.Words
	n := c.s.Block
	if len(w) < n+50 {
		t.Fatalf("%d words", len(w))
	}
	dark := slices.IndexFunc(c.flight.Clicks[90:], func(k api.Click) bool { return k.Kind == api.Nothing }) + 90
	both := slices.IndexFunc(c.flight.Clicks[90:], func(k api.Click) bool { return k.Kind == api.Both }) + 90
	for what, words := range map[string][]int{
		"a slot less": w[:n-1], "decoys in another order": slices.Concat(w[:n], []int{w[n+1], w[n]}), "a decoy twice": slices.Concat(w[:n], []int{w[n], w[n] ^ 1}),
		"a decoy behind the end": append(slices.Clone(w), 4800), "a decoy without a click": slices.Concat(w[:n], []int{2 * dark}), "a decoy with two clicks": slices.Concat(w[:n], []int{2*both + 1}),
		"a slot without a click": slices.Concat(slices.Sorted(slices.Values(append(slices.Clone(w[1:n]), dark))), w[n:]),
	} {
		c.wantStopped(what, f, api.ErrForm, words...)
	}
	shown := c.wantSent("the slots", f, api.LetterShown, w...)
	for i, word := range w[n:] {
		if shown[c.s.Sample+i] != c.flight.Clicks[word/2].Kind-api.Zero {
			t.Errorf("the bit of the decoy slot %d is %d", word/2, shown[c.s.Sample+i])
		}
	}
	// Which class they are of does not matter to R; and decoy slots may be those of the block.
	for what, words := range map[string][]int{
		"no decoys": w[:n], "the other class": changed(w, n, w[n]^1), "a slot of the block": slices.Concat(w[:n], []int{2 * w[0]}), "a slot of the head": slices.Concat(w[:n], []int{2 * firstHeard(c.flight.Clicks)}),
	} {
		if got := c.wantSent(what, f, api.LetterShown, words...); len(got) != c.s.Sample+len(words)-n || !slices.Equal(got[:c.s.Sample], shown[:c.s.Sample]) {
			t.Errorf("%s: shown %v", what, got)
		}
	}
}

// firstHeard returns the first slot with one click.
func firstHeard(l []api.Click) int {
	return slices.IndexFunc(l, func(k api.Click) bool { return k.Kind == api.Zero || k.Kind == api.One })
}

// P7.4: S looks at the sample.
func TestShown(t *testing.T) {
	s := example()
	s.Limit = frac(1, 20) // 2 of 40
	c := newSession(t, s)
	f := c.until(api.LetterShown)
	w := f.Letter.Words
	for what, words := range map[string][]int{"nothing": nil, "a bit less": w[:39], "a bit more": append(slices.Clone(w), 0), "a word 2": changed(w, 39, 2), "a great word": changed(w, 0, 65535)} {
		c.wantStopped(what, f, api.ErrForm, words...)
	}
	wrong := slices.Clone(w)
	for seen, want := range []int{4, 7, 10} {
		if got := c.wantSent(fmt.Sprint(seen, " wrong"), f, api.LetterGo, wrong...); !slices.Equal(got, []int{100, want}) {
			t.Errorf("%d wrong: go %v, want 100 %d", seen, got, want)
		}
		wrong[11*seen] ^= 1
	}
	c.wantStopped("3 wrong", f, api.ErrNoise, wrong...)
}

// P7.4: without a sample everything may be wrong, and there is no key.
func TestNoSample(t *testing.T) {
	s := example()
	s.Sample = 0
	c := newSession(t, s)
	f := c.until(api.LetterShown)
	if got := c.wantSent("no sample", f, api.LetterGo); !slices.Equal(got, []int{140, 140}) {
		t.Errorf("go %v", got)
	}
	f = c.until(api.LetterHash)
	c.wantStopped("no sample", f, api.ErrShort, f.Letter.Words...)
}

// P7.4: with decoys, the wrong ones among them do not count as errors, but those of the sample do; without any pulses of a class nothing is known of single photons.
func TestShownWithDecoys(t *testing.T) {
	c := newSession(t, withDecoys())
	f := c.until(api.LetterShown)
	w := f.Letter.Words
	c.wantStopped("a bit less", f, api.ErrForm, w[:len(w)-1]...)
	c.wantStopped("a word 2 at the end", f, api.ErrForm, changed(w, len(w)-1, 2)...)
	want := c.wantSent("the words", f, api.LetterGo, w...)
	if len(want) != 2 || want[0] < 100 || want[0] >= 200 {
		t.Errorf("go %v", want)
	}
	wrong := slices.Clone(w)
	for i := c.s.Sample; i < len(w); i++ {
		wrong[i] ^= 1
	}
	if got := c.wantSent("all decoys wrong", f, api.LetterGo, wrong...); !slices.Equal(got, want) {
		t.Errorf("with wrong decoys: go %v, want %v", got, want)
	}
	for i := range 6 {
		wrong[i] ^= 1
	}
	c.wantStopped("6 of 40 wrong", f, api.ErrNoise, wrong...)

	s := withDecoys()
	s.Optics.Classes = [3]int{0, 100, 156}
	c = newSession(t, s)
	f = c.until(api.LetterShown)
	c.wantStopped("no vacuum", f, api.ErrNone, f.Letter.Words...)
	// The errors of the sample come first.
	for i := range f.Letter.Words {
		f.Letter.Words[i] ^= 1
	}
	c.wantStopped("no vacuum, and all wrong", f, api.ErrNoise, f.Letter.Words...)
}

// P7.4: R begins with its questions.
func TestGo(t *testing.T) {
	c := newSession(t, example())
	f := c.until(api.LetterGo)
	if !slices.Equal(f.Letter.Words, []int{100, 4}) {
		t.Errorf("go %v", f.Letter.Words)
	}
	for what, words := range map[string][]int{"nothing": nil, "one word": {100}, "three words": {100, 4, 0}, "N above the rest": {101, 4}, "T above the rest": {100, 101}, "great words": {65535, 65535}} {
		c.wantStopped(what, f, api.ErrForm, words...)
	}
	for _, words := range [][]int{{100, 4}, {100, 100}, {0, 0}, {3, 7}} {
		if got := c.wantSent(fmt.Sprint(words), f, api.LetterAsk, words...); !slices.Equal(got, []int{0, 0, 16}) {
			t.Errorf("go %v: ask %v", words, got)
		}
	}
}

// P7.4: S answers questions, valid ones alone.
func TestAsk(t *testing.T) {
	c := newSession(t, example())
	f := c.until(api.LetterAsk)
	for what, words := range map[string][]int{
		"nothing": nil, "two words": {0, 0}, "four words": {0, 0, 1, 1}, "a pass behind the last one": {2, 0, 1}, "no bits": {0, 1, 1}, "less than none": {0, 2, 1}, "more than all": {0, 0, 101}, "great words": {65535, 65535, 65535},
	} {
		c.wantStopped(what, f, api.ErrForm, words...)
	}
	bits := c.m[0].m.bits
	for i := range bits {
		if got := c.wantSent(fmt.Sprint("bit ", i), f, api.LetterReply, 0, i, i+1); len(got) != 1 || (got[0] == 1) != bits[i] {
			t.Errorf("the bit %d: %v", i, got)
		}
	}
	c.wantSent("all bits in the last pass", f, api.LetterReply, 1, 0, 100)
	// The same question may be asked in another letter; it is entered into the ledger again.
	c.take("first", f.To, f.Letter)
	g := f.Letter
	g.Number += 2
	c.take("again", f.To, tagged(g, c.s, c.pool))
	if c.m[0].m.parities != 2 {
		t.Errorf("%d parities", c.m[0].m.parities)
	}
}

// P7.4: R tells the cascade what S replies.
func TestReply(t *testing.T) {
	c := newSession(t, example())
	f := c.until(api.LetterReply)
	w := f.Letter.Words
	for what, words := range map[string][]int{"nothing": nil, "two words": {0, 0}, "a word 2": {2}, "a great word": {65535}} {
		c.wantStopped(what, f, api.ErrForm, words...)
	}
	if got := c.wantSent("the right answer", f, api.LetterAsk, w...); !slices.Equal(got, []int{0, 16, 32}) {
		t.Errorf("ask %v", got)
	}
	// The search comes behind all blocks of the pass.
	if got := c.wantSent("the wrong answer", f, api.LetterAsk, 1-w[0]); !slices.Equal(got, []int{0, 16, 32}) {
		t.Errorf("ask %v", got)
	}
}

// P7.4: a cascade whose answers are those of no string fails.
func TestFailedCascade(t *testing.T) {
	s := example()
	s.Block, s.Sample, s.Plan = 2, 1, api.Cascade{Passes: 2, Block: 1}
	c := newSession(t, s)
	f := c.until(api.LetterReply)
	c.under = nil
	c.take("the first answer", f.To, c.with(f.Letter, 1-f.Letter.Words[0]))
	if ask := c.under[0]; !slices.Equal(ask.Letter.Words, []int{1, 0, 1}) {
		t.Fatalf("ask %v", ask.Letter.Words)
	}
	// The bit was inverted; if it is wrong now, too, it was inverted as often as there are bits.
	g := f
	g.Letter.Number += 2
	c.wantStopped("the second answer", g, api.ErrEqual, f.Letter.Words[0])
	c.wantSent("another second answer", g, api.LetterHash, 1-f.Letter.Words[0])
}

// P7.4: S compares digests, and makes the key.
func TestHash(t *testing.T) {
	c := newSession(t, example())
	f := c.until(api.LetterHash)
	w := f.Letter.Words
	for what, words := range map[string][]int{"nothing": nil, "one word": w[:1], "three words": {w[0], w[1], 0}} {
		c.wantStopped(what, f, api.ErrForm, words...)
	}
	for what, words := range map[string][]int{"another digest": {w[0], w[1] ^ 1}, "a great digest": {1, w[1]}} {
		if x := c.wantStopped(what, f, api.ErrEqual, words...); len(x.Records()) != 0 {
			t.Errorf("%s: there is a record", what)
		}
	}
	if got := c.wantSent("the digest", f, api.LetterAccept, w...); len(got) != 0 {
		t.Errorf("accept %v", got)
	}
	c.take("the digest", f.To, f.Letter)
	wantPhase(t, "behind the digest", c.x[0], api.Busy, api.OK, 1)
	s := example()
	s.Width = 32
	c = newSession(t, s)
	f = c.until(api.LetterHash)
	if f.Letter.Words[0] == 0 {
		t.Error("the digest has no upper half")
	}
	c.wantStopped("another upper half", f, api.ErrEqual, f.Letter.Words[0]^1, f.Letter.Words[1])
	c.wantSent("the digest of 32 bits", f, api.LetterAccept, f.Letter.Words...)
}

// P7.4: there has to be a key, for each of the stations.
func TestNoKey(t *testing.T) {
	// With 47 bits of margin more there is none.
	for margin, reason := range map[int]api.Errno{4 + 46: api.OK, 4 + 47: api.ErrShort} {
		s := example()
		s.Margin = margin
		p := newPair(t, s, nil, examplePool, 2)
		start(t, p)
		if reason == api.OK {
			wantBoth(t, "a bit", p, api.Ended, api.OK, 1)
			continue
		}
		wantBoth(t, "no bit", p, api.Stopped, reason, 0)
	}
	// What R is told of N and T is not what S knows.
	c := newSession(t, example())
	f := c.until(api.LetterGo)
	c.under = nil
	c.take("another T", f.To, c.with(f.Letter, 100, 50))
	f = c.until(api.LetterAccept)
	c.wantStopped("another T", f, api.ErrShort)
	c.take("another T", f.To, f.Letter)
	stop := c.until(api.LetterStop)
	c.take("another T", stop.To, stop.Letter)
	wantPhase(t, "S has the key", c.x[0], api.Ended, api.OK, 1)
	wantPhase(t, "R has no key", c.x[1], api.Stopped, api.ErrShort, 0)
}

// P7.4: R accepts, and S is told so.
func TestAcceptAndDone(t *testing.T) {
	c := newSession(t, example())
	f := c.until(api.LetterAccept)
	if x := c.wantStopped("accept with a word", f, api.ErrForm, 0); len(x.Records()) != 0 {
		t.Error("there is a record")
	}
	if got := c.wantSent("accept", f, api.LetterDone); len(got) != 0 {
		t.Errorf("done %v", got)
	}
	c.take("accept", f.To, f.Letter)
	wantPhase(t, "R", c.x[1], api.Ended, api.OK, 1)
	wantPhase(t, "S", c.x[0], api.Busy, api.OK, 1)
	f = c.until(api.LetterDone)
	// The record stays.
	c.wantStopped("done with a word", f, api.ErrForm, 0)
	c.take("done", f.To, f.Letter)
	wantPhase(t, "S", c.x[0], api.Ended, api.OK, 1)
}

// P7.4: each station heeds a stop, at any time, and sends nothing.
func TestStop(t *testing.T) {
	for _, kind := range []int{api.LetterHead, api.LetterHeard, api.LetterKept, api.LetterShown, api.LetterGo, api.LetterAsk, api.LetterReply, api.LetterHash, api.LetterAccept, api.LetterDone} {
		c := newSession(t, example())
		f := c.until(kind)
		f.Letter.Kind = api.LetterStop
		for what, words := range map[string][]int{"no word": nil, "two words": {1, 1}, "the reason 0": {0}, "the reason 23": {23}, "a great reason": {65535}} {
			c.wantStopped(what, f, api.ErrForm, words...)
		}
		for _, reason := range []int{1, 6, 18, 22} {
			x := c.x[f.To].Copy()
			l, e := x.Take(c.with(f.Letter, reason))
			wantLetters(t, "a stop", l, e, nil, api.OK)
			if kind == api.LetterDone { // S has accepted the key
				wantPhase(t, "a stop", x, api.Ended, api.OK, 1)
				continue
			}
			wantPhase(t, fmt.Sprint("a stop instead of ", kind), x, api.Stopped, api.Errno(reason), 0)
			l, e = x.Take(c.with(f.Letter, reason))
			wantLetters(t, "a stop again", l, e, nil, api.OK)
		}
	}
}
