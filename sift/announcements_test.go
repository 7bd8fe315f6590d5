package sift_test

import (
	"fmt"
	"slices"
	"strings"
	"testing"

	"waveplate/api"
	"waveplate/sift"
)

func checkAnnounce(t *testing.T, clicks []api.Click, shift, from, to int) api.Errno {
	t.Helper()
	l, e := sift.Announce(clicks, shift, from, to)
	list, err := modelAnnounce(clicks, shift, from, to)
	want(t, fmt.Sprintf("Announce of %s, %d, %d, %d", short(clicks), shift, from, to), l, e, list, err)
	return err
}

func checkText(t *testing.T, l []api.Heard) api.Errno {
	t.Helper()
	s, e := sift.Text(l)
	text, err := modelText(l)
	wantOne(t, "Text of "+short(l), s, e, text, err)
	return err
}

func checkParse(t *testing.T, s string) api.Errno {
	t.Helper()
	l, e := sift.Parse(s)
	list, err := modelParse(s)
	want(t, fmt.Sprintf("Parse of %.80q", s), l, e, list, err)
	return err
}

func checkMatch(t *testing.T, p []api.Pulse, l []api.Heard, from int) api.Errno {
	t.Helper()
	kept, e := sift.Match(p, l, from)
	list, err := modelMatch(p, l, from)
	want(t, fmt.Sprintf("Match of %s, %s, %d", short(p), short(l), from), kept, e, list, err)
	return err
}

// P4.2: any arguments.
func TestAnnounce(t *testing.T) {
	r := newRand()
	met := tally{}
	for range 8000 {
		c := anyClicks(r)
		to := orEdge(r, r.IntN(len(c)+20))
		from := orEdge(r, r.IntN(12))
		met[checkAnnounce(t, c, orEdge(r, r.IntN(33)-16), from, to)]++
	}
	met.wantAll(t, api.OK, api.ErrMany, api.ErrArg, api.ErrRange)
}

// P4.2: all ranges of slots, with few clicks.
func TestAnnouncedRanges(t *testing.T) {
	c := []api.Click{{Basis: 1, Kind: api.One}, {Kind: api.Both}, {Kind: api.Zero}, {}, {Basis: 1, Kind: api.Zero}}
	for shift := -17; shift <= 17; shift++ {
		for to := -1; to <= 24; to++ {
			for from := -1; from <= to+1; from++ {
				checkAnnounce(t, c, shift, from, to)
				checkAnnounce(t, nil, shift, from, to)
			}
		}
	}
}

// P4.2: the limits, and errors in their order.
func TestAnnounceErrors(t *testing.T) {
	c := make([]api.Click, 4097)
	for i := range c {
		c[i].Kind = api.One
	}
	for _, shift := range edgeInts {
		for _, from := range edgeInts {
			for _, to := range edgeInts {
				checkAnnounce(t, c[:20], shift, from, to)
			}
		}
		checkAnnounce(t, c, shift, 1, 0)
		checkAnnounce(t, c[:4096], shift, 0, 4096)
	}
	for _, x := range wrongClicks() {
		checkAnnounce(t, []api.Click{{}, x}, 17, 1, 0)
		checkAnnounce(t, append(slices.Clone(c), x), 17, 1, 0)
	}
	l, e := sift.Announce(c[:4096], 0, 0, 4096)
	if len(l) != 4096 || e != api.OK || l[4095] != (api.Heard{Slot: 4095}) {
		t.Errorf("Announce of all slots: %d, %d", len(l), e)
	}
}

// P4.3: any announcements.
func TestText(t *testing.T) {
	r := newRand()
	met := tally{}
	for range 4000 {
		first := r.IntN(4096)
		l := anyHeard(r, first, min(first+r.IntN(20), 4096))
		if checkText(t, l) == api.OK {
			s, _ := modelText(l)
			checkParse(t, s)
		}
		met[checkText(t, l)]++
	}
	met.wantAll(t, api.OK, api.ErrRange, api.ErrArg, api.ErrForm)
	checkText(t, nil)
	checkText(t, []api.Heard{})
}

// P4.3: of several faults the first announcement decides, and of its faults the one named first.
func TestTextErrors(t *testing.T) {
	faults := []api.Heard{{Slot: -1}, {Slot: 4096}, {Slot: 9, Basis: 2}, {Slot: 9, Basis: -1}, {Slot: 9}, {Slot: 10}, {Slot: 4096, Basis: 2}, {Slot: 11, Basis: 2}, {Slot: 11, Basis: 1}}
	for _, a := range faults {
		for _, b := range faults {
			checkText(t, []api.Heard{{Slot: 10, Basis: 1}, a, b})
			checkText(t, []api.Heard{a, b})
		}
	}
	for _, n := range edgeInts {
		checkText(t, []api.Heard{{Slot: n}})
		checkText(t, []api.Heard{{Basis: n}})
	}
	all := make([]api.Heard, 4097)
	for i := range all {
		all[i] = api.Heard{Slot: i, Basis: i / 2 % 2}
	}
	for _, l := range [][]api.Heard{all[:4096], all, append([]api.Heard{{Slot: -1}}, all[:4096]...), append([]api.Heard{{Slot: -1}}, all[:4095]...)} {
		checkText(t, l)
	}
	s, _ := sift.Text(all[:4096])
	checkParse(t, s)
}

// P4.3: nothing but the texts of announcements is read.
func TestParse(t *testing.T) {
	texts := []string{"", "\n", " ", "0 0", "0 0\r\n", "\x00", "0 0\n\n", "\n0 0\n", "0  0\n", " 0 0\n", "0 0 \n", "0 0 0\n", "0\n", "0 \n", " 0\n", "0 2\n", "0 -1\n", "0 00\n", "0 01\n", "0 +1\n", "-0 0\n", "+1 0\n", "-1 0\n", "1_0 0\n", "0x1 0\n", "1e1 0\n", "00 0\n", "01 0\n", "0\t0\n", "٣ 0\n", "1 0\n1 1\n", "2 0\n1 0\n", "1 0\n2 0\n2 0\n", "4095 1\n", "4096 0\n", "4294967296 0\n", "18446744073709551616 0\n", "9223372036854775807 0\n", "-9223372036854775808 0\n", "0 18446744073709551617\n", "a b\n", strings.Repeat("9", 60000) + " 0\n"}
	for _, s := range []string{"0 0\n", "0 0\n17 1\n", "9 1\n10 0\n99 0\n100 1\n", "999 1\n1000 0\n4095 1\n"} {
		texts = append(texts, s, s+s, s+"4096 0\n", strings.TrimSuffix(s, "\n"), strings.ReplaceAll(s, "\n", "\r\n"))
		texts = append(texts, edits(s)...)
	}
	met := tally{}
	for _, s := range texts {
		met[checkParse(t, s)]++
	}
	met.wantAll(t, api.OK, api.ErrForm)
}

// P4.3: texts of any length.
func TestLongTexts(t *testing.T) {
	for _, n := range []int{65535, 65536, 65537, 1 << 20} {
		for _, c := range []string{"\n", "0", " ", "0 0\n", "0 0\n1"} {
			s := strings.Repeat(c, n/len(c)+1)[:n]
			checkParse(t, s)
		}
	}
	var many strings.Builder
	for i := range 4097 {
		fmt.Fprintf(&many, "%d 0\n", i)
	}
	checkParse(t, many.String())
	checkParse(t, strings.TrimSuffix(many.String(), "4096 0\n"))
}

// P4.4: any arguments.
func TestMatch(t *testing.T) {
	r := newRand()
	met := tally{}
	for range 8000 {
		p := anyPulses(r)
		from := orEdge(r, r.IntN(min(len(p), 20)+2))
		first := max(0, min(from, 20))
		met[checkMatch(t, p, anyHeard(r, first, min(len(p), 40)), from)]++
	}
	met.wantAll(t, api.OK, api.ErrMany, api.ErrArg, api.ErrRange, api.ErrForm)
}

// P4.4: one pulse and one announcement, of each sort.
func TestMatchOfOneSlot(t *testing.T) {
	for i := range 1 << 4 {
		for class := range 3 {
			p := []api.Pulse{{Seen: true}, {Basis: i & 1, Bit: i>>1&1 == 1, Seen: i>>2&1 == 1, Class: class, Photons: i & 3}}
			var right []int
			if p[1].Seen && p[1].Basis == i>>3 {
				right = []int{1}
			}
			for from := range 2 {
				kept, e := sift.Match(p, []api.Heard{{Slot: 1, Basis: i >> 3}}, from)
				want(t, fmt.Sprint("Match of ", p[1], i>>3), kept, e, right, api.OK)
			}
		}
	}
}

// P4.4: errors, in their order.
func TestMatchErrors(t *testing.T) {
	p := make([]api.Pulse, 4097)
	for i := range p {
		p[i].Seen = true
	}
	faults := []api.Heard{{Slot: -1}, {Slot: 30}, {Slot: 29}, {Slot: 4}, {Slot: 4, Basis: 2}, {Slot: 5, Basis: 2}, {Slot: 5}, {Slot: 30, Basis: 2}, {Slot: 9}, {Slot: 9, Basis: -1}, {Slot: 10}, {Slot: 11, Basis: 1}}
	for _, from := range []int{0, 4, 5, 6} {
		for _, a := range faults {
			for _, b := range faults {
				checkMatch(t, p[:30], []api.Heard{{Slot: 10}, a, b}, from)
				checkMatch(t, p[:30], []api.Heard{a, b}, from)
			}
		}
	}
	for _, n := range edgeInts {
		checkMatch(t, p[:30], nil, n)
		checkMatch(t, p[:30], []api.Heard{{Slot: 12, Basis: 2}}, n)
		checkMatch(t, p[:30], []api.Heard{{Slot: n}}, 3)
		checkMatch(t, p[:30], []api.Heard{{Slot: 3, Basis: n}}, 3)
		checkMatch(t, p[:4096], []api.Heard{{Slot: n}}, 4095)
		checkMatch(t, p, []api.Heard{{Slot: -1}}, n)
		checkMatch(t, wrongPulses()[:1], []api.Heard{{Slot: -1}}, n)
		checkMatch(t, append(slices.Clone(p), wrongPulses()[0]), nil, n)
		checkMatch(t, nil, nil, n)
		checkMatch(t, nil, []api.Heard{{Slot: n}}, 0)
	}
	for _, x := range wrongPulses() {
		checkMatch(t, []api.Pulse{{}, x}, []api.Heard{{Slot: -1}}, -1)
	}
	// More announcements than there can be slots are not increasing.
	l := make([]api.Heard, 5000)
	for i := range l {
		l[i].Slot = i
	}
	checkMatch(t, p[:4096], l, 0)
	checkMatch(t, p[:4096], l[:4096], 0)
}

// The chapter's examples of announcements.
func TestAnnouncementExamples(t *testing.T) {
	c := []api.Click{{Basis: 1, Kind: api.Zero}, {Basis: 0, Kind: api.One}, {Basis: 1, Kind: api.Zero}}
	l, e := sift.Announce(c, 1, 0, 2)
	want(t, "the shift 1, from 0 to 2", l, e, []api.Heard{{Slot: 0, Basis: 0}, {Slot: 1, Basis: 1}}, api.OK)
	l, e = sift.Announce(c, 0, 2, 9)
	want(t, "the shift 0, from 2 to 9", l, e, []api.Heard{{Slot: 2, Basis: 1}}, api.OK)
	l, e = sift.Announce(c, 1, 1, 1)
	want(t, "the shift 1, from 1 to 1", l, e, nil, api.OK)
	s, e := sift.Text([]api.Heard{{Slot: 0, Basis: 0}, {Slot: 17, Basis: 1}})
	wantOne(t, "Text", s, e, "0 0\n17 1\n", api.OK)
	l, e = sift.Parse("0 0\n17 1\n")
	want(t, "Parse", l, e, []api.Heard{{Slot: 0, Basis: 0}, {Slot: 17, Basis: 1}}, api.OK)
	for _, s := range []string{"0 0", "1 0\n1 1\n", "4096 0\n"} {
		l, e := sift.Parse(s)
		want(t, s, l, e, nil, api.ErrForm)
	}
}
