package optics_test

import (
	"fmt"
	"math"
	"strings"
	"testing"

	"waveplate/api"
	"waveplate/optics"
)

// checkOptics fails unless Check, Text and Parse say of an arrangement what the chapter says.
func checkOptics(t *testing.T, o api.Optics) {
	t.Helper()
	e := optics.Check(o)
	s, e2 := optics.Text(o)
	if !isOptics(o) {
		wantOne(t, fmt.Sprint("Check of ", o), e, e2, api.ErrArg, api.ErrArg)
		wantOne(t, fmt.Sprint("Text of ", o), s, e2, "", api.ErrArg)
		return
	}
	wantOne(t, fmt.Sprint("Check of ", o), e, e2, api.OK, api.OK)
	wantOne(t, fmt.Sprint("Text of ", o), s, e2, opticsText(o), api.OK)
	p, e := optics.Parse(opticsText(o))
	wantOne(t, "Parse of "+s, p, e, o, api.OK)
}

// fields returns all numbers of an arrangement.
func fields(o *api.Optics) []*int {
	l := []*int{&o.Kind, &o.Eta, &o.Dark}
	for i := range o.Classes {
		l = append(l, &o.Classes[i])
	}
	for i := range o.Photons {
		for j := range o.Photons[i] {
			l = append(l, &o.Photons[i][j])
		}
	}
	return l
}

// P3.1.
func TestArrangements(t *testing.T) {
	r := newRand()
	for range 2000 {
		o := randomOptics(r)
		if !isOptics(o) {
			t.Fatal(o)
		}
		checkOptics(t, o)
	}
	for _, o := range []api.Optics{plain(), decoys(), pairs(), {}, {Kind: 1}, {Kind: 2}} {
		checkOptics(t, o)
		for i := range fields(&o) {
			for _, n := range edgeInts {
				p := o
				*fields(&p)[i] = n
				checkOptics(t, p)
			}
			// The sum stays as it is, but one weight is beyond the limits.
			for j := range fields(&o) {
				for _, n := range []int{1, 255, 256, 257, 1000, math.MinInt, math.MaxInt} {
					p := o
					*fields(&p)[i] += n
					*fields(&p)[j] -= n
					checkOptics(t, p)
				}
			}
		}
	}
}

// P3.1: only decoys have other classes than Signal, and photons in Weak; none have photons in Vacuum.
func TestClasses(t *testing.T) {
	for _, kind := range []int{-1, 0, 1, 2, 3} {
		for _, classes := range [][3]int{{0, 0, 256}, {256, 0, 0}, {0, 256, 0}, {0, 1, 255}, {0, 0, 255}, {1, 1, 1}, {-1, 1, 256}} {
			for _, vacuum := range [][4]int{dark, {255, 1}, {0, 256}, {}} {
				for _, weak := range [][4]int{dark, {255, 1}, {0, 0, 0, 256}, {}, {257, -1}} {
					for _, signal := range [][4]int{dark, {0, 256}, {64, 64, 64, 64}, {64, 64, 64, 63}, {64, 64, 64, 65}} {
						checkOptics(t, api.Optics{Kind: kind, Classes: classes, Photons: [3][4]int{vacuum, weak, signal}})
					}
				}
			}
		}
	}
}

// P3.1 and P3.16: nothing but the texts of valid arrangements is read.
func TestTextsOfArrangements(t *testing.T) {
	var texts []string
	for _, o := range []api.Optics{plain(), decoys(), pairs(), {Kind: 1, Classes: [3]int{256}, Photons: [3][4]int{dark, dark, dark}}} {
		s := opticsText(o)
		texts = append(texts, edits(s)...)
		texts = append(texts, s+"\n", s+" 0", " "+s, s+s, strings.ToUpper(s), strings.ReplaceAll(s, " ", "  "), strings.ReplaceAll(s, " ", "\t"), strings.ReplaceAll(s, " 0", " 00"), strings.ReplaceAll(s, " 0", " -0"), strings.ReplaceAll(s, " 0", " +0"), strings.ReplaceAll(s, "256", "0256"))
		for _, word := range []string{"", "prepare", "decoy", "pairs", "pair", "Prepare", "0"} {
			texts = append(texts, word, word+" ", word+s[strings.Index(s, " "):])
		}
		words := strings.Split(s, " ")
		for i := range words {
			texts = append(texts, strings.Join(words[:i], " "), strings.Join(words[i:], " "))
		}
	}
	texts = append(texts, "", " ", "\n", strings.Repeat("prepare ", 100000), "prepare"+strings.Repeat(" 0", 100000), "prepare "+strings.Repeat("9", 100000), "prepare 0 0 18446744073709551872 256 0 0 0 256 0 0 0 0 256 0 0 256 0", "prepare 0 0 256 256 0 0 0 256 0 0 0 0 256 0 0 18446744073709551616 0")
	valid := 0
	for _, s := range texts {
		o, e := optics.Parse(s)
		if !isOpticsText(s) {
			wantOne(t, fmt.Sprintf("Parse of %.80q", s), o, e, api.Optics{}, api.ErrForm)
			continue
		}
		valid++
		if e != api.OK || !isOptics(o) || opticsText(o) != s {
			t.Errorf("Parse of %q: %v, %d", s, o, e)
		}
	}
	if valid == 0 || valid == len(texts) {
		t.Errorf("%d of %d texts are valid", valid, len(texts))
	}
}

// The chapter's examples of arrangements.
func TestArrangementExamples(t *testing.T) {
	s, e := optics.Text(plain())
	wantOne(t, "Text", s, e, "prepare 0 0 256 256 0 0 0 256 0 0 0 0 256 0 0 256 0", api.OK)
	eta, classes, vacuum := plain(), plain(), plain()
	eta.Eta = 257
	classes.Classes = [3]int{0, 1, 255}
	vacuum.Photons[api.Vacuum] = [4]int{255, 1}
	for _, o := range []api.Optics{eta, classes, vacuum} {
		if e := optics.Check(o); e != api.ErrArg {
			t.Errorf("Check of %v: %d", o, e)
		}
	}
	s, e = optics.Text(decoys())
	wantOne(t, "Text", s, e, "decoy 50 70 136 256 0 0 0 150 60 30 16 60 80 60 56 180 40", api.OK)
	o, e := optics.Parse("pairs 0 0 256 256 0 0 0 256 0 0 0 40 120 60 36 150 20")
	wantOne(t, "Parse", o, e, pairs(), api.OK)
}
