package reconcile

import (
	"waveplate/algebra"
	"waveplate/api"
)

// maxDegree is in how many checks a bit is at most.
const maxDegree = 4

// CheckCode reports whether a code is valid.
func CheckCode(c api.Code) api.Errno {
	if c.Bits < 1 || c.Bits > api.MaxBlock || c.Checks < 1 || c.Checks > api.MaxChecks || c.Degree < 1 || c.Degree > min(maxDegree, c.Checks) {
		return api.ErrArg
	}
	return api.OK
}

// Matrix returns the checks of a code.
func Matrix(c api.Code) ([][]int, api.Errno) {
	if e := CheckCode(c); e != api.OK {
		return nil, e
	}
	return matrix(c), api.OK
}

// Syndrome returns the parities of a string.
func Syndrome(c api.Code, b []bool) ([]bool, api.Errno) {
	if e := firstError(CheckCode(c), checkEqual(len(b), c.Bits)); e != api.OK {
		return nil, e
	}
	return parities(matrix(c), b), api.OK
}

// matrix returns the checks of a valid code.
func matrix(c api.Code) [][]int {
	checks, draws := make([][]int, c.Checks), algebra.New(c.Seed)
	for bit := range c.Bits {
		drawn, _ := draws.Sample(c.Checks, c.Degree)
		for _, i := range drawn {
			checks[i] = append(checks[i], bit)
		}
	}
	return checks
}

// parities returns the parities of a string in some checks.
func parities(checks [][]int, b []bool) []bool {
	l := make([]bool, len(checks))
	for i, check := range checks {
		l[i] = parityAt(b, check)
	}
	return l
}
