package session_test

import (
	"maps"
	"math/big"
	"slices"
	"strconv"
	"strings"

	"waveplate/algebra"
	"waveplate/api"
	"waveplate/distil"
	"waveplate/optics"
	"waveplate/reconcile"
	"waveplate/sift"
)

// A second writing of the chapter, without the package. It uses the lower layers.

// twin is a station.
type twin struct {
	s       api.Setup
	side    int
	pool    []bool
	used    map[int]bool
	records []api.Record
	last    int
	phase   int
	reason  api.Errno
	m       memory
}

// memory is what a crash takes away.
type memory struct {
	awaits      string // the names of kinds
	sent, taken []api.Letter
	waited      int
	parities    int
	hashes      int

	pulses []api.Pulse
	clicks []api.Click
	kept   []int
	block  []int // the block slots
	decoys []int
	shift  int
	bits   []bool // the rest
	n, t   int
	course *reconcile.Machine
}

// names are the kinds of letters.
var names = []string{"", "head", "heard", "kept", "shown", "go", "ask", "reply", "hash", "accept", "done", "stop"}

func newTwin(s api.Setup, side int, pool []bool) *twin {
	return &twin{s: s, side: side, pool: pool, used: map[int]bool{}}
}

// publics returns the public numbers of the session.
func (x *twin) publics() (sample uint64, plan api.Cascade, hash, amplify uint64) {
	d := algebra.New(x.s.Seed + uint64(x.last))
	sample = d.Next()
	plan = x.s.Plan
	plan.Seed = plan.Seed + d.Next()
	hash = d.Next() & (1<<x.s.Width - 1)
	return sample, plan, hash, d.Next()
}

// letterText returns the text of the bits of a letter.
func letterText(l api.Letter) string {
	var s strings.Builder
	for _, n := range append([]int{l.Session, l.Kind, l.Number}, l.Words...) {
		s.WriteString(strconv.FormatInt(int64(65536+n), 2)[1:])
	}
	return s.String()
}

// tagOf returns the tag of a letter, and whether its number exists in a pool, and its bits are not too many.
func tagOf(l api.Letter, width int, pool []bool) (tag uint64, exists, short bool) {
	at := 2 * width * l.Number
	if at+2*width > len(pool) {
		return 0, false, true
	}
	key, _ := strconv.ParseUint(textOf(pool[at:at+width]), 2, 64)
	pad, _ := strconv.ParseUint(textOf(pool[at+width:at+2*width]), 2, 64)
	tag, e := distil.Tag(width, key, pad, bitsOf(letterText(l)))
	return tag, true, e == api.OK
}

// next returns the number of the next letter.
func (x *twin) next() int {
	k := x.side
	for n := range x.used {
		if n%2 == x.side && n >= k {
			k = n + 2
		}
	}
	return k
}

// sends sends a letter.
func (x *twin) sends(name string, words ...int) []api.Letter {
	l := api.Letter{Session: x.last, Kind: slices.Index(names, name), Number: x.next(), Words: words}
	tag, exists, _ := tagOf(l, x.s.Width, x.pool)
	if !exists {
		x.phase, x.reason = api.Stopped, api.ErrShort
		return nil
	}
	x.used[l.Number] = true
	l.Tag = tag
	x.m.sent = []api.Letter{l}
	return x.m.sent
}

func (x *twin) stops(reason api.Errno) []api.Letter {
	x.phase, x.reason = api.Stopped, reason
	return x.sends("stop", int(reason))
}

func (x *twin) begin(number int, p []api.Pulse, c []api.Click) ([]api.Letter, api.Errno) {
	if x.phase == api.Down {
		return nil, api.ErrDown
	}
	if number < 1 || number > 1000 {
		return nil, api.ErrRange
	}
	if number <= x.last {
		return nil, api.ErrOld
	}
	if x.side == 0 {
		if len(p) != x.s.Slots || slices.ContainsFunc(p, wrongPulse) {
			return nil, api.ErrArg
		}
		x.last, x.phase, x.reason, x.m = number, api.Busy, api.OK, memory{pulses: p, awaits: "heard"}
		var words []int
		for _, pulse := range p[:x.s.Head] {
			word := 0
			if pulse.Basis == 1 {
				word |= 2
			}
			if pulse.Bit {
				word |= 1
			}
			if !pulse.Seen {
				word |= 4
			}
			words = append(words, word)
		}
		return x.sends("head", words...), api.OK
	}
	if len(c) != x.s.Slots || slices.ContainsFunc(c, wrongClick) {
		return nil, api.ErrArg
	}
	x.last, x.phase, x.reason, x.m = number, api.Busy, api.OK, memory{clicks: c, awaits: "head"}
	return nil, api.OK
}

func wrongPulse(p api.Pulse) bool {
	return p.Basis&^1 != 0 || p.Class < 0 || p.Class > 2 || p.Photons&^3 != 0
}

func wrongClick(c api.Click) bool { return c.Basis&^1 != 0 || c.Kind&^3 != 0 }

// wrongLetter reports whether a letter is not valid.
func wrongLetter(l api.Letter, width int) bool {
	return l.Session < 1 || l.Session > 1000 || l.Kind < 1 || l.Kind > 11 || l.Number&^65535 != 0 || len(l.Words) > 4096 ||
		slices.ContainsFunc(l.Words, func(w int) bool { return w&^65535 != 0 }) || l.Tag >= 1<<width
}

func (x *twin) take(l api.Letter) ([]api.Letter, api.Errno) {
	switch {
	case x.phase == api.Down:
		return nil, api.ErrDown
	case wrongLetter(l, x.s.Width) || (l.Number+x.side)%2 == 0:
		return nil, api.ErrArg
	}
	name := names[l.Kind]
	if x.m.taken != nil && sameLetter(x.m.taken[0], l) {
		if slices.Contains([]string{"heard", "shown", "ask", "hash", "accept"}, name) {
			return x.m.sent, api.OK
		}
		return nil, api.OK
	}
	if x.phase != api.Busy || l.Session != x.last || name != "stop" && !slices.Contains(strings.Fields(x.m.awaits), name) {
		return nil, api.ErrState
	}
	tag, exists, short := tagOf(l, x.s.Width, x.pool)
	switch {
	case !exists:
		return nil, api.ErrShort
	case x.used[l.Number]:
		return nil, api.ErrOld
	case !short:
		return nil, api.ErrLong
	case tag != l.Tag:
		return nil, api.ErrTag
	}
	x.used[l.Number] = true
	x.m.taken, x.m.waited = []api.Letter{{Session: l.Session, Kind: l.Kind, Number: l.Number, Words: slices.Clone(l.Words), Tag: l.Tag}}, 0
	sent, right := x.react(name, slices.Clone(l.Words))
	if !right {
		sent = x.stops(api.ErrForm)
	}
	return sent, api.OK
}

// react returns what is sent, and whether the words were as they have to be.
func (x *twin) react(name string, w []int) ([]api.Letter, bool) {
	switch name {
	case "head":
		return x.head(w)
	case "heard":
		return x.heard(w)
	case "kept":
		return x.keptOnes(w)
	case "shown":
		return x.shown(w)
	case "go":
		if len(w) != 2 || max(w[0], w[1]) > x.s.Block-x.s.Sample {
			return nil, false
		}
		x.m.n, x.m.t = w[0], w[1]
		_, plan, _, _ := x.publics()
		x.m.course, _ = reconcile.New(plan, x.m.bits)
		return x.goesOn(), true
	case "ask":
		_, plan, _, _ := x.publics()
		if len(w) != 3 || w[0] >= plan.Passes || w[1] >= w[2] || w[2] > len(x.m.bits) {
			return nil, false
		}
		x.m.parities++
		at, _ := reconcile.Places(plan, len(x.m.bits), api.Question{Pass: w[0], From: w[1], To: w[2]})
		answer := 0
		for _, i := range at {
			if x.m.bits[i] {
				answer = 1 - answer
			}
		}
		return x.sends("reply", answer), true
	case "reply":
		if len(w) != 1 || w[0] > 1 {
			return nil, false
		}
		x.m.parities++
		x.m.course.Tell(w[0] != 0)
		return x.goesOn(), true
	case "hash":
		if len(w) != 2 {
			return nil, false
		}
		x.m.hashes++
		_, _, key, _ := x.publics()
		if digest, _ := algebra.Hash(x.s.Width, key, x.m.bits); digest != uint64(w[0])*65536+uint64(w[1]) {
			return x.stops(api.ErrEqual), true
		}
		if !x.accepts() {
			return x.stops(api.ErrShort), true
		}
		x.m.awaits = "done"
		return x.sends("accept"), true
	case "accept":
		if len(w) != 0 {
			return nil, false
		}
		if !x.accepts() {
			return x.stops(api.ErrShort), true
		}
		x.phase = api.Ended
		return x.sends("done"), true
	case "done":
		if len(w) == 0 {
			x.phase = api.Ended
		}
		return nil, len(w) == 0
	}
	if len(w) != 1 || w[0] == 0 || w[0] > 22 {
		return nil, false
	}
	x.phase = api.Ended
	if !x.accepted() {
		x.phase, x.reason = api.Stopped, api.Errno(w[0])
	}
	return nil, true
}

func (x *twin) head(w []int) ([]api.Letter, bool) {
	var l []api.Pulse
	for _, n := range w {
		if n > 7 {
			return nil, false
		}
		l = append(l, api.Pulse{Basis: n >> 1 & 1, Bit: n&1 != 0, Class: 2, Seen: n&4 == 0})
	}
	if len(w) != x.s.Head {
		return nil, false
	}
	shift, e := sift.Align(l, x.m.clicks, x.s.Need)
	if e != api.OK {
		return x.stops(api.ErrSync), true
	}
	x.m.shift = shift
	var words []int
	for i := x.s.Head; i < x.s.Slots; i++ {
		if c := x.click(i); c.Kind == 1 || c.Kind == 2 {
			words = append(words, 2*i|c.Basis)
		}
	}
	x.m.awaits = "kept"
	return x.sends("heard", words...), true
}

// click returns the click that belongs to a slot of the sender; no click at all if there is none.
func (x *twin) click(slot int) api.Click {
	if j := slot + x.m.shift; j >= 0 && j < len(x.m.clicks) {
		return x.m.clicks[j]
	}
	return api.Click{}
}

func (x *twin) heard(w []int) ([]api.Letter, bool) {
	var kept, signals, words []int
	for i, n := range w {
		slot := n >> 1
		if slot < x.s.Head || slot >= x.s.Slots || i > 0 && w[i-1]>>1 >= slot {
			return nil, false
		}
		if p := x.m.pulses[slot]; p.Seen && p.Basis == n&1 {
			kept = append(kept, slot)
			switch {
			case p.Class == 2:
				signals = append(signals, slot)
			case x.s.Optics.Kind == api.Decoy:
				x.m.decoys = append(x.m.decoys, slot)
				words = append(words, 2*slot+p.Class)
			}
		}
	}
	x.m.kept = kept
	if len(signals) < x.s.Block {
		return x.stops(api.ErrShort), true
	}
	x.m.block = slices.Clone(signals[:x.s.Block])
	x.m.awaits = "shown"
	return x.sends("kept", append(slices.Clone(x.m.block), words...)...), true
}

// seenIn returns the bits that were seen in slots of the sender, and whether each of them has one, and they increase.
func (x *twin) seenIn(slots []int) ([]bool, bool) {
	var l []bool
	for i, slot := range slots {
		c := x.click(slot)
		if c.Kind != 1 && c.Kind != 2 || i > 0 && slots[i-1] >= slot {
			return nil, false
		}
		l = append(l, c.Kind == 2)
	}
	return l, true
}

// halves returns the bits of the sample and those of the rest, of which the sample's words are what is shown.
func (x *twin) halves(b []bool) (sample []int, rest []bool) {
	seed, _, _, _ := x.publics()
	order, _ := algebra.New(seed).Perm(x.s.Block)
	for i, bit := range b {
		switch {
		case !slices.Contains(order[:x.s.Sample], i):
			rest = append(rest, bit)
		case bit:
			sample = append(sample, 1)
		default:
			sample = append(sample, 0)
		}
	}
	return sample, rest
}

func (x *twin) keptOnes(w []int) ([]api.Letter, bool) {
	if len(w) < x.s.Block || x.s.Optics.Kind != api.Decoy && len(w) > x.s.Block {
		return nil, false
	}
	b, ok := x.seenIn(w[:x.s.Block])
	if !ok {
		return nil, false
	}
	var slots []int
	for _, n := range w[x.s.Block:] {
		slots = append(slots, n>>1)
	}
	d, ok := x.seenIn(slots)
	if !ok {
		return nil, false
	}
	words, rest := x.halves(b)
	x.m.bits = rest
	for _, bit := range d {
		if bit {
			words = append(words, 1)
		} else {
			words = append(words, 0)
		}
	}
	x.m.awaits = "go"
	return x.sends("shown", words...), true
}

func (x *twin) shown(w []int) ([]api.Letter, bool) {
	if len(w) != x.s.Sample+len(x.m.decoys) || slices.ContainsFunc(w, func(n int) bool { return n > 1 }) {
		return nil, false
	}
	var own []bool
	for _, slot := range x.m.block {
		own = append(own, x.m.pulses[slot].Bit)
	}
	sample, rest := x.halves(own)
	seen := 0
	for i, n := range sample {
		seen += n ^ w[i]
	}
	if tooMany(seen, x.s.Sample, x.s.Limit) {
		return x.stops(api.ErrNoise), true
	}
	n, e := len(rest), api.OK
	if x.s.Optics.Kind == api.Decoy {
		n, e = x.single(w[x.s.Sample:])
	}
	if e != api.OK {
		return x.stops(api.ErrNone), true
	}
	rate, _ := sift.Rate(x.s.Block, x.s.Sample, seen, x.s.Eps)
	x.m.n, x.m.t, x.m.bits, x.m.awaits = n, rate.Rest, rest, "ask hash"
	return x.sends("go", n, rate.Rest), true
}

// tooMany reports whether seen is greater than limit times n.
func tooMany(seen, n int, limit api.Frac) bool {
	value := func(a api.Nat) *big.Int {
		v := new(big.Int)
		for i := len(a) - 1; i >= 0; i-- {
			v.Add(v.Lsh(v, 32), big.NewInt(int64(a[i])))
		}
		return v
	}
	left := new(big.Int).Mul(value(limit.Den), big.NewInt(int64(seen)))
	return left.Cmp(new(big.Int).Mul(value(limit.Num), big.NewInt(int64(n)))) > 0
}

// single returns how many bits of the rest come of single photons.
func (x *twin) single(shown []int) (int, api.Errno) {
	var g [3]api.Gain
	for slot := x.s.Head; slot < x.s.Slots; slot++ {
		if p := x.m.pulses[slot]; p.Seen {
			g[p.Class].Sent++
		}
	}
	for _, slot := range x.m.kept {
		g[x.m.pulses[slot].Class].Heard++
	}
	for i, slot := range x.m.decoys {
		if p := x.m.pulses[slot]; p.Bit != (shown[i] == 1) {
			g[p.Class].Wrong++
		}
	}
	return sift.Singles(x.s.Optics, g, x.s.Block-x.s.Sample)
}

func (x *twin) goesOn() []api.Letter {
	q, open, _ := x.m.course.Ask()
	switch {
	case open:
		x.m.awaits = "reply"
		return x.sends("ask", q.Pass, q.From, q.To)
	case x.m.course.Failed():
		return x.stops(api.ErrEqual)
	}
	x.m.bits = x.m.course.Bits()
	x.m.hashes++
	_, _, key, _ := x.publics()
	digest, _ := algebra.Hash(x.s.Width, key, x.m.bits)
	x.m.awaits = "accept"
	return x.sends("hash", int(digest/65536), int(digest%65536))
}

// accepts adds a record, and reports whether there is a key.
func (x *twin) accepts() bool {
	var l []api.Item
	if x.m.parities > 0 {
		l = append(l, api.Item{Kind: api.ItemParity, Bits: x.m.parities})
	}
	if x.m.hashes > 0 {
		l = append(l, api.Item{Kind: api.ItemHash, Bits: x.m.hashes * x.s.Width})
	}
	_, _, _, seed := x.publics()
	cost, _ := distil.Cost(x.m.n, x.m.t)
	out := x.m.n - cost - x.m.parities - x.m.hashes*x.s.Width - x.s.Margin
	if out <= 0 {
		return false
	}
	key, _ := distil.Amplify(x.m.bits, out, seed)
	x.records = append(x.records, api.Record{Session: x.last, Block: x.m.bits, N: x.m.n, T: x.m.t, Ledger: l, Key: key})
	return true
}

// accepted reports whether there is a record of the session.
func (x *twin) accepted() bool {
	return slices.ContainsFunc(x.records, func(r api.Record) bool { return r.Session == x.last })
}

func (x *twin) tick() ([]api.Letter, api.Errno) {
	if x.phase == api.Down {
		return nil, api.ErrDown
	}
	if x.phase != api.Busy {
		return nil, api.OK
	}
	if x.m.waited++; x.m.waited <= x.s.Tries {
		return x.m.sent, api.OK
	}
	if x.accepted() {
		x.phase = api.Ended
		return nil, api.OK
	}
	return x.stops(api.ErrNone), api.OK
}

func (x *twin) crash() ([]api.Letter, api.Errno) {
	if x.phase == api.Down {
		return nil, api.ErrDown
	}
	x.phase, x.reason, x.m = api.Down, api.OK, memory{}
	return nil, api.OK
}

func (x *twin) restart() ([]api.Letter, api.Errno) {
	if x.phase != api.Down {
		return nil, api.ErrState
	}
	x.phase = api.Idle
	return nil, api.OK
}

// usedNumbers returns the used numbers, in order.
func (x *twin) usedNumbers() []int { return slices.Sorted(maps.Keys(x.used)) }

// twins is a pair.
type twins struct {
	s      api.Setup
	rules  []api.Rule
	light  uint64
	x      [2]*twin
	under  []api.Flying
	flight api.Flight
}

func newTwins(s api.Setup, rules []api.Rule, pool []bool, light uint64) *twins {
	return &twins{s: s, rules: rules, light: light, x: [2]*twin{newTwin(s, 0, pool), newTwin(s, 1, pool)}}
}

// posts puts letters under way from a station.
func (p *twins) posts(from int, l []api.Letter) {
	for _, x := range l {
		x.Words = slices.Clone(x.Words)
		p.under = append(p.under, api.Flying{To: 1 - from, Letter: x})
	}
	p.under = p.under[:min(len(p.under), 64)]
}

func (p *twins) do(e api.Event) api.Errno {
	switch e.Kind {
	case 1:
		return p.start()
	case 2, 3, 4, 5:
		if e.A < 0 || e.A >= len(p.under) {
			return api.ErrRange
		}
		return p.handle(e)
	case 6, 7, 8:
		if e.A&^1 != 0 {
			return api.ErrRange
		}
		x := p.x[e.A]
		l, err := []func() ([]api.Letter, api.Errno){x.tick, x.crash, x.restart}[e.Kind-6]()
		p.posts(e.A, l)
		return err
	}
	return api.ErrArg
}

func (p *twins) start() api.Errno {
	if p.x[0].phase == api.Down || p.x[1].phase == api.Down {
		return api.ErrDown
	}
	n := max(p.x[0].last, p.x[1].last) + 1
	if n > 1000 {
		return api.ErrFull
	}
	d := algebra.New(p.light + uint64(n))
	seeds := [3]uint64{d.Next(), d.Next(), d.Next()}
	p.flight, _ = optics.Run(p.s.Optics, p.rules, p.s.Slots, seeds)
	p.x[1].begin(n, nil, p.flight.Clicks)
	l, _ := p.x[0].begin(n, p.flight.Pulses, nil)
	p.posts(0, l)
	return api.OK
}

// handle does what is done with a letter.
func (p *twins) handle(e api.Event) api.Errno {
	f := p.under[e.A]
	switch e.Kind {
	case 4:
		if len(p.under) == 64 {
			return api.ErrFull
		}
		p.posts(1-f.To, []api.Letter{f.Letter})
	case 5:
		if e.B >= 0 && e.B < len(f.Letter.Words) {
			p.under[e.A].Letter.Words[e.B] ^= 1
		} else {
			p.under[e.A].Letter.Tag ^= 1
		}
	default:
		p.under = append(slices.Clone(p.under[:e.A]), p.under[e.A+1:]...)
		if e.Kind == 2 {
			l, err := p.x[f.To].take(f.Letter)
			p.posts(f.To, l)
			return err
		}
	}
	return api.OK
}

// collided returns the sessions with different blocks.
func (p *twins) collided() []int {
	var l []int
	for _, a := range p.x[0].records {
		for _, b := range p.x[1].records {
			if a.Session == b.Session && !slices.Equal(a.Block, b.Block) {
				l = append(l, a.Session)
			}
		}
	}
	slices.Sort(l)
	return l
}

// sampleOf returns the indexes of a sample, in order.
func sampleOf(seed uint64, n, k int) []int {
	l, _ := algebra.New(seed).Sample(n, k)
	return l
}
