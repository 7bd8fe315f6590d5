package optics_test

import (
	"fmt"
	"math"
	"slices"
	"strings"
	"testing"

	"waveplate/api"
	"waveplate/optics"
)

// wantChannel fails unless all functions with a channel give this error, and Script and Shift these results.
func wantChannel(t *testing.T, l []api.Rule, text string, shift int, err api.Errno) {
	t.Helper()
	what := short(l)
	if e := optics.CheckRules(l); e != err {
		t.Errorf("CheckRules of %s: %d, want %d", what, e, err)
	}
	s, e := optics.Script(l)
	wantOne(t, "Script of "+what, s, e, text, err)
	n, e := optics.Shift(l)
	wantOne(t, "Shift of "+what, n, e, shift, err)
}

// checkRule fails unless the functions say of a rule what the chapter says.
func checkRule(t *testing.T, r api.Rule) {
	t.Helper()
	line, ok := ruleLine(r)
	err := api.OK
	if !ok {
		line, err = "", api.ErrArg
	}
	if e := optics.CheckRule(r); e != err {
		t.Errorf("CheckRule of %v: %d, want %d", r, e, err)
	}
	s, e := optics.Line(r)
	wantOne(t, fmt.Sprint("Line of ", r), s, e, line, err)
	if !ok {
		wantChannel(t, []api.Rule{r}, "", 0, err)
		return
	}
	wantChannel(t, []api.Rule{r}, line+"\n", modelShift([]api.Rule{r}), err)
	l, n, e := optics.Rules(line + "\n")
	want(t, "Rules of "+line, l, e, []api.Rule{r}, api.OK)
	wantOne(t, "the line in Rules of "+line, n, e, 0, api.OK)
}

// P3.2 and P3.16: all rules with fields at the edges.
func TestRules(t *testing.T) {
	slots := []int{math.MinInt, -1, 0, 1, 17, 4095, 4096, math.MaxInt}
	numbers := []int{math.MinInt, -256, -1, 0, 1, 2, 15, 16, 17, 255, 256, 257, math.MaxInt}
	for _, kind := range []int{math.MinInt, -1, 0, 1, 2, 3, 4, 5, 6, 7, 8, math.MaxInt} {
		for _, from := range slots {
			for _, to := range slots {
				for _, a := range numbers {
					for _, b := range []int{math.MinInt, -1, 0, 1, 2, 16, math.MaxInt} {
						checkRule(t, api.Rule{Kind: kind, From: from, To: to, A: a, B: b})
					}
				}
			}
		}
	}
	r := newRand()
	for range 3000 {
		checkRule(t, randomRule(r, 2000, allKinds...))
	}
}

// P3.2: what the lines look like.
func TestLines(t *testing.T) {
	for _, x := range []struct {
		line string
		r    api.Rule
	}{
		{"loss 0", api.Rule{Kind: api.RuleLoss}},
		{"loss 256", api.Rule{Kind: api.RuleLoss, A: 256}},
		{"noise 7", api.Rule{Kind: api.RuleNoise, A: 7}},
		{"late 0", api.Rule{Kind: api.RuleShift}},
		{"late 16", api.Rule{Kind: api.RuleShift, A: 16}},
		{"early 1", api.Rule{Kind: api.RuleShift, A: 1, B: 1}},
		{"early 16", api.Rule{Kind: api.RuleShift, A: 16, B: 1}},
		{"resend 0 4095 256", api.Rule{Kind: api.RuleResend, To: 4095, A: 256}},
		{"split 5 5", api.Rule{Kind: api.RuleSplit, From: 5, To: 5}},
		{"starve 3 9 100", api.Rule{Kind: api.RuleStarve, From: 3, To: 9, A: 100}},
		{"blind 1 2 0 1", api.Rule{Kind: api.RuleBlind, From: 1, To: 2, B: 1}},
		{"blind 4095 4095 1 0", api.Rule{Kind: api.RuleBlind, From: 4095, To: 4095, A: 1}},
	} {
		s, e := optics.Line(x.r)
		wantOne(t, "Line", s, e, x.line, api.OK)
		checkRule(t, x.r)
	}
}

// P3.2: whole channels.
func TestScripts(t *testing.T) {
	r := newRand()
	for range 500 {
		l := randomRules(r, 32, 4096, allKinds...)
		var text strings.Builder
		for i, x := range l {
			l[i].To = min(x.To, 4095)
			line, _ := ruleLine(l[i])
			text.WriteString(line + "\n")
		}
		wantChannel(t, l, text.String(), modelShift(l), api.OK)
		again, n, e := optics.Rules(text.String())
		want(t, "Rules", again, e, l, api.OK)
		wantOne(t, "the line", n, e, 0, api.OK)
	}
	for _, l := range [][]api.Rule{nil, {}} {
		wantChannel(t, l, "", 0, api.OK)
	}
}

// P3.2: ErrMany comes before ErrArg, and ErrArg before ErrHave.
func TestChannelErrors(t *testing.T) {
	loss, late, early, wrong := api.Rule{Kind: api.RuleLoss}, api.Rule{Kind: api.RuleShift}, api.Rule{Kind: api.RuleShift, A: 1, B: 1}, api.Rule{Kind: 8}
	for _, x := range []struct {
		l []api.Rule
		e api.Errno
	}{
		{slices.Repeat([]api.Rule{loss}, 33), api.ErrMany},
		{slices.Repeat([]api.Rule{wrong}, 33), api.ErrMany},
		{slices.Repeat([]api.Rule{late}, 33), api.ErrMany},
		{slices.Repeat([]api.Rule{late}, 32), api.ErrHave},
		{slices.Repeat([]api.Rule{wrong}, 32), api.ErrArg},
		{[]api.Rule{late, late, wrong}, api.ErrArg},
		{[]api.Rule{wrong, late, late}, api.ErrArg},
		{[]api.Rule{late, late}, api.ErrHave},
		{[]api.Rule{late, loss, early}, api.ErrHave},
		{[]api.Rule{early, loss, early, loss}, api.ErrHave},
		{[]api.Rule{loss, wrong, loss}, api.ErrArg},
		{append(slices.Repeat([]api.Rule{loss}, 31), wrong), api.ErrArg},
	} {
		wantChannel(t, x.l, "", 0, x.e)
		light, notes, e := optics.Carry(x.l, nil, 1)
		want(t, "Carry, light", light, e, nil, x.e)
		want(t, "Carry, notes", notes, e, nil, x.e)
		f, e := optics.Run(plain(), x.l, 10, [3]uint64{})
		wantFlight(t, "Run", f, e, api.Flight{}, x.e)
	}
	wantChannel(t, slices.Repeat([]api.Rule{loss}, 32), strings.Repeat("loss 0\n", 32), 0, api.OK)
	wantChannel(t, append(slices.Repeat([]api.Rule{loss}, 31), early), strings.Repeat("loss 0\n", 31)+"early 1\n", -1, api.OK)
}

// checkScript fails unless Rules says of a text what the chapter says.
func checkScript(t *testing.T, s string) {
	t.Helper()
	right, line, err := modelRules(s)
	l, n, e := optics.Rules(s)
	what := fmt.Sprintf("Rules of %.200q", s)
	want(t, what, l, e, right, err)
	wantOne(t, what+", the line", n, e, line, err)
	if e == api.OK {
		text, e := optics.Script(l)
		wantOne(t, "Script", text, e, s, api.OK)
	}
}

// P3.3.
func TestTextsOfChannels(t *testing.T) {
	most := strings.Repeat("loss 1\n", 32)
	for _, x := range []struct {
		s string
		n int
		e api.Errno
	}{
		{"", 0, api.OK},
		{"\n", 1, api.ErrForm},
		{" ", 1, api.ErrForm},
		{"loss 1", 1, api.ErrForm},
		{"loss 1\n", 0, api.OK},
		{"loss 1\n\n", 2, api.ErrForm},
		{"loss 1\nx", 2, api.ErrForm},
		{"loss 1\r\n", 1, api.ErrForm},
		{"loss\n", 1, api.ErrForm},
		{"loss \n", 1, api.ErrForm},
		{" loss 1\n", 1, api.ErrForm},
		{"loss 1 \n", 1, api.ErrForm},
		{"loss  1\n", 1, api.ErrForm},
		{"loss 01\n", 1, api.ErrForm},
		{"loss +1\n", 1, api.ErrForm},
		{"loss -0\n", 1, api.ErrForm},
		{"loss 1 0\n", 1, api.ErrForm},
		{"loss 257\n", 1, api.ErrForm},
		{"loss 18446744073709551617\n", 1, api.ErrForm},
		{"Loss 1\n", 1, api.ErrForm},
		{"late 17\n", 1, api.ErrForm},
		{"early 0\n", 1, api.ErrForm},
		{"late 0\n", 0, api.OK},
		{"resend 1 0 5\n", 1, api.ErrForm},
		{"resend 0 4096 5\n", 1, api.ErrForm},
		{"split 0 1 0\n", 1, api.ErrForm},
		{"blind 0 1 2 0\n", 1, api.ErrForm},
		{"blind 0 1 0 2\n", 1, api.ErrForm},
		{"late 1\nloss 1\nlate 1\n", 3, api.ErrHave},
		{"late 0\nearly 1\nwrong\n", 2, api.ErrHave},
		{"late 1\nearly 1", 2, api.ErrForm},
		{"late 1\nearly 17\n", 2, api.ErrForm},
		{"late 1\nwrong\nearly 1\n", 2, api.ErrForm},
		{most, 0, api.OK},
		{most + "\n", 33, api.ErrMany},
		{most + "x", 33, api.ErrMany},
		{most + "loss 1\n", 33, api.ErrMany},
		{most + most, 33, api.ErrMany},
		{most[:len(most)-1], 32, api.ErrForm},
		{"late 1\n" + most[7:] + "late 1\n", 33, api.ErrMany},
		{"late 1\n" + most[14:] + "late 1\n", 32, api.ErrHave},
		{"x\n" + most, 1, api.ErrForm},
		{strings.Repeat("x", 65536), 1, api.ErrForm},
		{strings.Repeat("\n", 65536), 1, api.ErrForm},
		{most + strings.Repeat("x", 65536-len(most)), 33, api.ErrMany},
		{strings.Repeat("x", 65537), 0, api.ErrLong},
		{strings.Repeat("\n", 65537), 0, api.ErrLong},
		{most + strings.Repeat("x", 65537-len(most)), 0, api.ErrLong},
	} {
		l, n, e := optics.Rules(x.s)
		if n != x.n || e != x.e || e != api.OK && len(l) != 0 {
			t.Errorf("Rules of %.100q: %s, %d, %d, want %d, %d", x.s, short(l), n, e, x.n, x.e)
		}
		if x.e != api.ErrLong {
			checkScript(t, x.s)
		}
	}
}

// P3.3 and P3.16: nothing but the lines of valid rules is read.
func TestEditedChannels(t *testing.T) {
	for _, s := range edits("loss 10\nnoise 1\nlate 3\nresend 0 99 128\nsplit 5 7\nstarve 0 4095 256\nblind 0 0 1 1\nearly 10\n") {
		checkScript(t, s)
	}
	for _, s := range edits("late 1\nearly 2\n") {
		checkScript(t, s)
	}
	for _, word := range []string{"loss", "noise", "late", "early", "resend", "split", "starve", "blind", "shift", ""} {
		for n := range 7 {
			for _, number := range []string{" 0", " 1", " 2", " 16", " 256", " 4095", " 4096", " ", " x"} {
				checkScript(t, word+strings.Repeat(number, n)+"\n")
			}
		}
	}
}

// The chapter's examples of rules.
func TestRuleExamples(t *testing.T) {
	l, n, e := optics.Rules("loss 10\nresend 0 99 128\n")
	want(t, "two rules", l, e, []api.Rule{{Kind: api.RuleLoss, A: 10}, {Kind: api.RuleResend, To: 99, A: 128}}, api.OK)
	wantOne(t, "two rules, the line", n, e, 0, api.OK)
	_, n, e = optics.Rules("loss 257\n")
	wantOne(t, "loss 257", n, e, 1, api.ErrForm)
	_, n, e = optics.Rules("late 3")
	wantOne(t, "late 3 without a line feed", n, e, 1, api.ErrForm)
	_, n, e = optics.Rules("late 1\nearly 1\n")
	wantOne(t, "late 1, early 1", n, e, 2, api.ErrHave)
	n, e = optics.Shift([]api.Rule{{Kind: api.RuleShift, A: 3, B: 1}})
	wantOne(t, "early 3", n, e, -3, api.OK)
}
