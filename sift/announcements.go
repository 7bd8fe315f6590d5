package sift

import (
	"strconv"
	"strings"

	"waveplate/api"
)

// Announce returns what the receiver announces.
func Announce(clicks []api.Click, shift, from, to int) ([]api.Heard, api.Errno) {
	if e := firstError(checkClicks(clicks), checkShift(shift), checkCount(to, api.MaxSlots), checkCount(from, to)); e != api.OK {
		return nil, e
	}
	var l []api.Heard
	for slot := max(from, -shift); slot < min(to, len(clicks)-shift); slot++ {
		if c := clicks[slot+shift]; isHeard(c) {
			l = append(l, api.Heard{Slot: slot, Basis: c.Basis})
		}
	}
	return l, api.OK
}

// Text returns the text of announcements.
func Text(l []api.Heard) (string, api.Errno) {
	if len(l) > api.MaxSlots {
		return "", api.ErrMany
	}
	if e := checkHeard(l, between(0, api.MaxSlots)); e != api.OK {
		return "", e
	}
	var text strings.Builder
	for _, h := range l {
		text.WriteString(line(h))
	}
	return text.String(), api.OK
}

// Parse reads announcements.
func Parse(s string) ([]api.Heard, api.Errno) {
	if len(s) > api.MaxText {
		return nil, api.ErrLong
	}
	var l []api.Heard
	for rest := s; rest != ""; {
		var part string
		part, rest, _ = strings.Cut(rest, "\n")
		l = append(l, parseLine(part))
	}
	// What Text does not write is not read, whatever numbers are in it.
	if text, e := Text(l); e != api.OK || text != s {
		return nil, api.ErrForm
	}
	return l, api.OK
}

// Match returns the kept slots.
func Match(pulses []api.Pulse, l []api.Heard, from int) ([]int, api.Errno) {
	if e := firstError(checkPulses(pulses), checkCount(from, api.MaxSlots)); e != api.OK {
		return nil, e
	}
	if e := checkHeard(l, between(from, len(pulses))); e != api.OK {
		return nil, e
	}
	var kept []int
	for _, h := range l {
		if p := pulses[h.Slot]; p.Seen && p.Basis == h.Basis {
			kept = append(kept, h.Slot)
		}
	}
	return kept, api.OK
}

// isHeard reports whether a click says one bit.
func isHeard(c api.Click) bool { return c.Kind == api.Zero || c.Kind == api.One }

// line returns the line of an announcement.
func line(h api.Heard) string {
	return strconv.Itoa(h.Slot) + " " + strconv.Itoa(h.Basis) + "\n"
}

// parseLine returns the announcement of a line without its line feed. What it returns for another text has another line.
func parseLine(s string) api.Heard {
	slot, basis, _ := strings.Cut(s, " ")
	return api.Heard{Slot: number(slot), Basis: number(basis)}
}

// number returns the number with a text, or -1.
func number(s string) int {
	n, err := strconv.Atoi(s)
	if err != nil {
		return -1
	}
	return n
}
