package optics

import (
	"strings"

	"waveplate/api"
)

// kindNames are the words for the kinds of sources.
var kindNames = [3]string{api.Prepare: "prepare", api.Decoy: "decoy", api.Pairs: "pairs"}

// Check reports whether an arrangement is valid.
func Check(o api.Optics) api.Errno {
	if !isArrangement(o) {
		return api.ErrArg
	}
	return api.OK
}

// Text returns the text of an arrangement.
func Text(o api.Optics) (string, api.Errno) {
	if !isArrangement(o) {
		return "", api.ErrArg
	}
	return write(kindNames[o.Kind], parts(&o)), api.OK
}

// Parse reads an arrangement.
func Parse(s string) (api.Optics, api.Errno) {
	word, rest, _ := strings.Cut(s, " ")
	for kind, name := range kindNames {
		if word != name {
			continue
		}
		o := api.Optics{Kind: kind}
		if read(rest, parts(&o)) && isArrangement(o) {
			return o, api.OK
		}
	}
	return api.Optics{}, api.ErrForm
}

// parts returns the numbers of an arrangement, all of them parts of 256, in the order of its text.
func parts(o *api.Optics) []number {
	var l []number
	for i := range o.Classes {
		l = append(l, part(&o.Classes[i]))
	}
	for i := range o.Photons {
		for j := range o.Photons[i] {
			l = append(l, part(&o.Photons[i][j]))
		}
	}
	return append(l, part(&o.Eta), part(&o.Dark))
}

// part returns the number in a field for a part of 256.
func part(field *int) number { return number{field, 0, whole} }

// isArrangement reports whether an arrangement is valid.
func isArrangement(o api.Optics) bool {
	dark := [4]int{whole}
	if !inRange(parts(&o)) || !areWeights(o.Classes[:]) || o.Photons[api.Vacuum] != dark {
		return false
	}
	for _, row := range o.Photons {
		if !areWeights(row[:]) {
			return false
		}
	}
	switch o.Kind {
	case api.Decoy:
		return true
	case api.Prepare, api.Pairs:
		return o.Classes[api.Signal] == whole && o.Photons[api.Weak] == dark
	}
	return false
}

// areWeights reports whether parts of 256 are the weights of a choice.
func areWeights(l []int) bool {
	sum := 0
	for _, n := range l {
		sum += n
	}
	return sum == whole
}
