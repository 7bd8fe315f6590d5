package reconcile

import (
	"slices"

	"waveplate/algebra"
	"waveplate/api"
)

// Check reports whether a plan is valid.
func Check(c api.Cascade) api.Errno {
	if c.Passes < 1 || c.Passes > api.MaxPasses || c.Block < 1 || c.Block > api.MaxBlock {
		return api.ErrArg
	}
	return api.OK
}

// Order returns the order of a pass.
func Order(c api.Cascade, n, pass int) ([]int, api.Errno) {
	if e := checkPass(c, n, pass); e != api.OK {
		return nil, e
	}
	return order(c, n, pass), api.OK
}

// Blocks returns the blocks of a pass.
func Blocks(c api.Cascade, n, pass int) ([]api.Question, api.Errno) {
	if e := checkPass(c, n, pass); e != api.OK {
		return nil, e
	}
	return blocks(c, n, pass), api.OK
}

// Places returns the indexes of the bits of a question.
func Places(c api.Cascade, n int, q api.Question) ([]int, api.Errno) {
	if e := firstError(Check(c), checkLength(n), checkQuestion(c, n, q)); e != api.OK {
		return nil, e
	}
	return slices.Clone(order(c, n, q.Pass)[q.From:q.To]), api.OK
}

// Reply returns the answer of the true string.
func Reply(c api.Cascade, b []bool, q api.Question) (bool, api.Errno) {
	at, e := Places(c, len(b), q)
	if e != api.OK {
		return false, e
	}
	return parityAt(b, at), api.OK
}

// checkPass returns the error of a plan, of n bits for it, or of one of its passes.
func checkPass(c api.Cascade, n, pass int) api.Errno {
	return firstError(Check(c), checkLength(n), checkCount(pass, c.Passes-1))
}

// checkQuestion returns ErrRange if a question is not valid for a plan and n bits.
func checkQuestion(c api.Cascade, n int, q api.Question) api.Errno {
	if q.Pass < 0 || q.Pass >= c.Passes || q.From < 0 || q.From >= q.To || q.To > n {
		return api.ErrRange
	}
	return api.OK
}

// order returns the order of a pass that exists.
func order(c api.Cascade, n, pass int) []int {
	if pass > 0 {
		l, _ := algebra.New(c.Seed + uint64(pass)).Perm(n)
		return l
	}
	l := make([]int, n)
	for i := range l {
		l[i] = i
	}
	return l
}

// orders returns the orders of all passes.
func orders(c api.Cascade, n int) [][]int {
	l := make([][]int, c.Passes)
	for pass := range l {
		l[pass] = order(c, n, pass)
	}
	return l
}

// blocks returns the blocks of a pass that exists.
func blocks(c api.Cascade, n, pass int) []api.Question {
	most := min(c.Block<<pass, api.MaxBlock)
	var l []api.Question
	for from := 0; from < n; from += most {
		l = append(l, api.Question{Pass: pass, From: from, To: min(from+most, n)})
	}
	return l
}

// size returns how many bits a question has.
func size(q api.Question) int { return q.To - q.From }

// firstHalf returns the first half of a question.
func firstHalf(q api.Question) api.Question {
	return api.Question{Pass: q.Pass, From: q.From, To: q.From + size(q)/2}
}
