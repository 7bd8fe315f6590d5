package optics_test

import (
	"fmt"
	"regexp"
	"slices"
	"strconv"
	"strings"

	"waveplate/api"
)

// The chapter once more, written out in another way.

// gen is the generator of layer 2.
type gen uint64

func (g *gen) below(n int) int {
	*g = *g*4906513781625342421 + 1181783497276652981
	s := uint64(*g)
	x := s ^ s/(1<<32)
	y := x * 7809847782465536323
	return int((y ^ y/(1<<29)) % uint64(n))
}

func (g *gen) weighted(l []int) int {
	draw, sum := g.below(256), 0
	for i, w := range l {
		sum += w
		if sum > draw {
			return i
		}
	}
	panic("the weights are not valid")
}

func modelEmit(o api.Optics, n int, seed uint64) []api.Pulse {
	g := gen(seed)
	var l []api.Pulse
	for len(l) < n {
		p := api.Pulse{Class: api.Signal, Seen: true}
		p.Basis = g.below(2)
		p.Bit = g.below(2) == 1
		if o.Kind == api.Decoy {
			p.Class = g.weighted(o.Classes[:])
		}
		p.Photons = g.weighted(o.Photons[p.Class][:])
		if o.Kind == api.Pairs {
			least := 256
			for range p.Photons {
				least = min(least, g.below(256))
			}
			p.Seen = least < o.Eta
		}
		l = append(l, p)
	}
	return l
}

func modelCarry(rules []api.Rule, pulses []api.Pulse, seed uint64) ([]api.Light, []api.Note) {
	g := gen(seed)
	var light []api.Light
	var notes []api.Note
	for slot, p := range pulses {
		l := api.Light{Photons: p.Photons, Basis: p.Basis, Bit: p.Bit}
		for _, r := range rules {
			if r.Kind >= api.RuleResend && (slot < r.From || slot > r.To) {
				continue
			}
			how := modelRule(r, &l, &g)
			if how != 0 {
				notes = append(notes, api.Note{Slot: slot, How: how, Basis: l.Basis, Bit: l.Bit})
			}
		}
		if !l.Bright && l.Photons == 0 {
			l.Basis, l.Bit = 0, false
		}
		light = append(light, l)
	}
	return light, notes
}

// modelRule does to light what a rule does, and returns how the eavesdropper got to know it, or 0.
func modelRule(r api.Rule, l *api.Light, g *gen) int {
	if r.Kind == api.RuleBlind {
		*l = api.Light{Bright: true, Basis: r.A, Bit: r.B == 1}
		return api.Forced
	}
	if l.Bright || l.Photons == 0 {
		return 0
	}
	switch {
	case r.Kind == api.RuleLoss:
		for i := l.Photons; i > 0; i-- {
			if g.below(256) < r.A {
				l.Photons--
			}
		}
	case r.Kind == api.RuleNoise:
		if g.below(256) < r.A {
			l.Bit = !l.Bit
		}
	case r.Kind == api.RuleResend && g.below(256) < r.A:
		basis := g.below(2)
		if basis != l.Basis {
			l.Bit = g.below(2) == 1
		}
		l.Basis = basis
		l.Photons = 1
		return api.Measured
	case r.Kind == api.RuleSplit && l.Photons > 1:
		l.Photons--
		return api.Kept
	case r.Kind == api.RuleStarve && l.Photons == 1:
		if g.below(256) < r.A {
			l.Photons = 0
		}
	}
	return 0
}

func modelDetect(o api.Optics, light []api.Light, shift int, seed uint64) []api.Click {
	g := gen(seed)
	clicks := make([]api.Click, len(light))
	for j := range clicks {
		c := &clicks[j]
		c.Basis = g.below(2)
		var l api.Light
		for i := range light {
			if i+shift == j {
				l = light[i]
			}
		}
		same := c.Basis == l.Basis
		if l.Bright {
			if same {
				c.Kind = map[bool]int{false: api.Zero, true: api.One}[l.Bit]
			}
			continue
		}
		fired := map[bool]bool{}
		for range l.Photons {
			if g.below(256) >= o.Eta {
				continue
			}
			if same {
				fired[l.Bit] = true
			} else {
				fired[g.below(2) == 1] = true
			}
		}
		for _, bit := range []bool{false, true} {
			if g.below(256) < o.Dark {
				fired[bit] = true
			}
		}
		switch {
		case fired[false] && fired[true]:
			c.Kind = api.Both
		case fired[false]:
			c.Kind = api.Zero
		case fired[true]:
			c.Kind = api.One
		}
	}
	return clicks
}

func modelShift(rules []api.Rule) int {
	shift := 0
	for _, r := range rules {
		if r.Kind == api.RuleShift {
			shift += r.A * (1 - 2*r.B)
		}
	}
	return shift
}

func modelRun(o api.Optics, rules []api.Rule, n int, seeds [3]uint64) api.Flight {
	f := api.Flight{Pulses: modelEmit(o, n, seeds[0]), Shift: modelShift(rules)}
	light, notes := modelCarry(rules, f.Pulses, seeds[1])
	f.Notes = notes
	f.Clicks = modelDetect(o, light, f.Shift, seeds[2])
	return f
}

func modelAgree(p []api.Pulse, c []api.Click, shift int) (same, wrong []int) {
	for i := range p {
		for j := range c {
			if i+shift != j || !p[i].Seen || p[i].Basis != c[j].Basis || c[j].Kind == api.Nothing || c[j].Kind == api.Both {
				continue
			}
			same = append(same, i)
			if p[i].Bit != (c[j].Kind == api.One) {
				wrong = append(wrong, i)
			}
		}
	}
	return same, wrong
}

func modelKnows(p []api.Pulse, notes []api.Note) []int {
	var known []int
	for i := range p {
		if slices.ContainsFunc(notes, func(n api.Note) bool {
			return n.Slot == i && (n.How == api.Kept || n.Basis == p[i].Basis)
		}) {
			known = append(known, i)
		}
	}
	return known
}

// isOptics reports whether an arrangement is valid.
func isOptics(o api.Optics) bool {
	all := []int{o.Eta, o.Dark}
	all = append(all, o.Classes[:]...)
	for _, row := range o.Photons {
		all = append(all, row[:]...)
	}
	for _, w := range all {
		if w < 0 || w > 256 {
			return false
		}
	}
	for _, row := range o.Photons {
		if row[0]+row[1]+row[2]+row[3] != 256 {
			return false
		}
	}
	if o.Classes[0]+o.Classes[1]+o.Classes[2] != 256 || o.Photons[0] != dark {
		return false
	}
	single := o.Classes == [3]int{0, 0, 256} && o.Photons[1] == dark
	return o.Kind == 1 || single && (o.Kind == 0 || o.Kind == 2)
}

// opticsText returns the text of a valid arrangement.
func opticsText(o api.Optics) string {
	p := o.Photons
	line := fmt.Sprintln([]string{"prepare", "decoy", "pairs"}[o.Kind],
		o.Classes[0], o.Classes[1], o.Classes[2],
		p[0][0], p[0][1], p[0][2], p[0][3], p[1][0], p[1][1], p[1][2], p[1][3], p[2][0], p[2][1], p[2][2], p[2][3],
		o.Eta, o.Dark)
	return strings.TrimSuffix(line, "\n")
}

var numbersText = regexp.MustCompile(`^([a-z]+)(( (0|[1-9][0-9]*))+)$`)

// readNumbers returns the word and the numbers of a line, or "".
func readNumbers(s string) (string, []int) {
	m := numbersText.FindStringSubmatch(s)
	if m == nil {
		return "", nil
	}
	var l []int
	for _, w := range strings.Fields(m[2]) {
		n, err := strconv.Atoi(w)
		if err != nil {
			return "", nil
		}
		l = append(l, n)
	}
	return m[1], l
}

// isOpticsText reports whether a text is that of a valid arrangement.
func isOpticsText(s string) bool {
	word, l := readNumbers(s)
	kind := slices.Index([]string{"prepare", "decoy", "pairs"}, word)
	return kind >= 0 && len(l) == 17 && isOptics(api.Optics{
		Kind: kind, Classes: [3]int(l[:3]), Photons: [3][4]int{[4]int(l[3:7]), [4]int(l[7:11]), [4]int(l[11:15])}, Eta: l[15], Dark: l[16],
	})
}

// ruleLine returns the line of a rule, and whether it is valid.
func ruleLine(r api.Rule) (string, bool) {
	part := r.A >= 0 && r.A <= 256
	anywhere := r.From == 0 && r.To == 0
	slots := r.From >= 0 && r.From <= r.To && r.To < 4096
	from, to, a, b := r.From, r.To, r.A, r.B
	switch r.Kind {
	case 1:
		return fmt.Sprint("loss ", a), part && anywhere && b == 0
	case 2:
		return fmt.Sprint("noise ", a), part && anywhere && b == 0
	case 3:
		if b == 0 {
			return fmt.Sprint("late ", a), anywhere && a >= 0 && a <= 16
		}
		return fmt.Sprint("early ", a), anywhere && b == 1 && a >= 1 && a <= 16
	case 4:
		return fmt.Sprint("resend ", from, " ", to, " ", a), part && slots && b == 0
	case 5:
		return fmt.Sprint("split ", from, " ", to), slots && a == 0 && b == 0
	case 6:
		return fmt.Sprint("starve ", from, " ", to, " ", a), part && slots && b == 0
	case 7:
		return fmt.Sprint("blind ", from, " ", to, " ", a, " ", b), slots && (a == 0 || a == 1) && (b == 0 || b == 1)
	}
	return "", false
}

// lineRule returns the rule of a line, and whether there is a valid one.
func lineRule(s string) (api.Rule, bool) {
	word, l := readNumbers(s)
	arity := map[string]int{"loss": 1, "noise": 1, "late": 1, "early": 1, "resend": 3, "split": 2, "starve": 3, "blind": 4}
	if word == "" || len(l) != arity[word] {
		return api.Rule{}, false
	}
	l = append(l, 0, 0, 0)
	var r api.Rule
	switch word {
	case "loss":
		r = api.Rule{Kind: 1, A: l[0]}
	case "noise":
		r = api.Rule{Kind: 2, A: l[0]}
	case "late":
		r = api.Rule{Kind: 3, A: l[0]}
	case "early":
		r = api.Rule{Kind: 3, A: l[0], B: 1}
	case "resend":
		r = api.Rule{Kind: 4, From: l[0], To: l[1], A: l[2]}
	case "split":
		r = api.Rule{Kind: 5, From: l[0], To: l[1]}
	case "starve":
		r = api.Rule{Kind: 6, From: l[0], To: l[1], A: l[2]}
	case "blind":
		r = api.Rule{Kind: 7, From: l[0], To: l[1], A: l[2], B: l[3]}
	}
	_, ok := ruleLine(r)
	return r, ok
}

// modelRules reads a channel: the number of the first line that is wrong, and its error.
func modelRules(s string) ([]api.Rule, int, api.Errno) {
	lines := strings.SplitAfter(s, "\n")
	if lines[len(lines)-1] == "" {
		lines = lines[:len(lines)-1]
	}
	var l []api.Rule
	shifts := 0
	for i, line := range lines {
		r, ok := lineRule(strings.TrimSuffix(line, "\n"))
		if r.Kind == 3 {
			shifts++
		}
		switch {
		case i == 32:
			return nil, 33, api.ErrMany
		case !ok || !strings.HasSuffix(line, "\n"):
			return nil, i + 1, api.ErrForm
		case shifts == 2:
			return nil, i + 1, api.ErrHave
		}
		l = append(l, r)
	}
	return l, 0, api.OK
}
