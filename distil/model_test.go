package distil_test

import (
	"fmt"
	"math/big"
	"regexp"
	"slices"
	"strconv"
	"strings"

	"waveplate/algebra"
	"waveplate/api"
)

// This file writes the chapter a second time, without the package.

// firstOf returns the first error.
func firstOf(l ...api.Errno) api.Errno {
	for _, e := range l {
		if e != api.OK {
			return e
		}
	}
	return api.OK
}

// unless returns an error if something does not hold.
func unless(holds bool, e api.Errno) api.Errno {
	if holds {
		return api.OK
	}
	return e
}

// in reports whether n is from a to b.
func in(n, a, b int) bool { return a <= n && n <= b }

func modelItem(kind, bits int) api.Errno {
	return firstOf(unless(in(kind, 1, 4), api.ErrArg), unless(in(bits, 0, 65536), api.ErrRange))
}

func modelCheck(l []api.Item) api.Errno {
	errors := []api.Errno{unless(len(l) <= 1000, api.ErrMany)}
	for _, x := range l {
		errors = append(errors, modelItem(x.Kind, x.Bits))
	}
	return firstOf(errors...)
}

func modelEnter(l []api.Item, kind, bits int) ([]api.Item, api.Errno) {
	if e := firstOf(modelCheck(l), modelItem(kind, bits)); e != api.OK {
		return nil, e
	}
	c := slices.Clone(l)
	if n := len(c); n > 0 && c[n-1].Kind == kind {
		c[n-1].Bits += bits
		if c[n-1].Bits > 65536 {
			return nil, api.ErrOver
		}
		return c, api.OK
	}
	if len(c) == 1000 {
		return nil, api.ErrMany
	}
	return append(c, item(kind, bits)), api.OK
}

func modelTotal(l []api.Item) (int, api.Errno) {
	if e := modelCheck(l); e != api.OK {
		return 0, e
	}
	n := 0
	for _, x := range l {
		n += x.Bits
	}
	return n, api.OK
}

func modelOf(l []api.Item, kind int) (int, api.Errno) {
	if e := firstOf(modelCheck(l), unless(in(kind, 1, 4), api.ErrArg)); e != api.OK {
		return 0, e
	}
	n := 0
	for _, x := range l {
		if x.Kind == kind {
			n += x.Bits
		}
	}
	return n, api.OK
}

func modelText(l []api.Item) (string, api.Errno) {
	if e := modelCheck(l); e != api.OK {
		return "", e
	}
	text := ""
	for _, x := range l {
		text += fmt.Sprintf("%s %d\n", strings.Split("parity check hash extra", " ")[x.Kind-1], x.Bits)
	}
	return text, api.OK
}

var ledgerText = regexp.MustCompile(`\A((parity|check|hash|extra) (0|[1-9][0-9]{0,4})\n)*\z`)

func modelParse(s string) ([]api.Item, api.Errno) {
	if len(s) > 65536 {
		return nil, api.ErrLong
	}
	if !ledgerText.MatchString(s) || strings.Count(s, "\n") > 1000 {
		return nil, api.ErrForm
	}
	var l []api.Item
	for _, line := range strings.Split(strings.TrimSuffix(s, "\n"), "\n") {
		if line == "" {
			continue
		}
		kind := map[byte]int{'p': 1, 'c': 2, 'h': 3, 'e': 4}[line[0]]
		bits, _ := strconv.Atoi(line[strings.Index(line, " ")+1:])
		if bits > 65536 {
			return nil, api.ErrForm
		}
		l = append(l, item(kind, bits))
	}
	return l, api.OK
}

func isElement(w int, n uint64) bool { return n < 1<<w }

// product returns a product in the field of a width: the product of two polynomials, and the rest of its division.
func product(w int, a, b uint64) uint64 {
	polynomial := map[int]uint64{8: 0x11b, 16: 0x1002b, 32: 0x10000008d}[w]
	var p uint64
	for i := range w {
		p ^= a << i * (b >> i & 1)
	}
	for i := w - 1; i >= 0; i-- {
		if p>>(i+w)&1 == 1 {
			p ^= polynomial << i
		}
	}
	return p
}

// modelWords returns the words of a bit string.
func modelWords(w int, m []bool) []uint64 {
	padded := append(slices.Clone(m), true)
	for len(padded)%w > 0 {
		padded = append(padded, false)
	}
	l := []uint64{1}
	for i, bit := range padded {
		if i%w == 0 {
			l = append(l, 0)
		}
		l[len(l)-1] *= 2
		if bit {
			l[len(l)-1]++
		}
	}
	return l
}

// hash returns the hash of a bit string, as a sum of products with powers of the key.
func hash(w int, key uint64, m []bool) uint64 {
	words, power, sum := modelWords(w, m), uint64(1), uint64(0)
	for _, word := range slices.Backward(words) {
		power = product(w, power, key)
		sum ^= product(w, word, power)
	}
	return sum
}

func modelDigest(w int, key uint64, block []bool) (uint64, api.Errno) {
	e := firstOf(unless(len(block) <= 512, api.ErrLong), unless(slices.Contains(widths, w), api.ErrArg))
	if e == api.OK && !isElement(w, key) {
		e = api.ErrRange
	}
	if e != api.OK {
		return 0, e
	}
	return hash(w, key, block), api.OK
}

func modelConfirm(w int, key uint64, block []bool, digest uint64) api.Errno {
	h, e := modelDigest(w, key, block)
	return firstOf(e, unless(h == digest, api.ErrSum))
}

func modelCost(n, t int) (int, api.Errno) {
	if !in(n, 0, 512) {
		return 0, api.ErrRange
	}
	ball := new(big.Int)
	for i := 0; i <= min(t, n); i++ {
		ball.Add(ball, new(big.Int).Binomial(int64(n), int64(i)))
	}
	return len(ball.Text(2)) * ball.Sign(), api.OK
}

func modelLength(n, t int, l []api.Item, margin int) (int, api.Errno) {
	if e := firstOf(unless(in(n, 0, 512) && in(t, 0, 512) && in(margin, 0, 512), api.ErrRange), modelCheck(l)); e != api.OK {
		return 0, e
	}
	cost, _ := modelCost(n, t)
	total, _ := modelTotal(l)
	if left := n - cost - total - margin; left > 0 {
		return left, api.OK
	}
	return 0, api.OK
}

func modelSeed(n, out int, seed uint64) ([]bool, api.Errno) {
	if !in(n, 0, 512) || !in(out, 0, 512) {
		return nil, api.ErrRange
	}
	var b []bool
	for d := algebra.New(seed); len(b) < n+out-1; {
		b = append(b, d.Next()%2 == 1)
	}
	return b, api.OK
}

func modelAmplify(block []bool, out int, seed uint64) ([]bool, api.Errno) {
	if e := firstOf(unless(len(block) <= 512, api.ErrLong), unless(in(out, 0, 512), api.ErrRange)); e != api.OK {
		return nil, e
	}
	n := len(block)
	bits, _ := modelSeed(n, out, seed)
	key := make([]bool, out)
	for i := range key {
		for j := range n {
			if block[j] && bits[i+n-1-j] {
				key[i] = !key[i]
			}
		}
	}
	return key, api.OK
}

func modelDistil(block []bool, n, t int, l []api.Item, margin int, seed uint64) ([]bool, api.Errno) {
	length, e := modelLength(n, t, l, margin)
	e = firstOf(unless(len(block) <= 512, api.ErrLong), unless(in(n, 0, len(block)), api.ErrRange), e, unless(length > 0, api.ErrShort))
	if e != api.OK {
		return nil, e
	}
	return modelAmplify(block, length, seed)
}

func modelTag(w int, key, pad uint64, m []bool) (uint64, api.Errno) {
	switch {
	case !slices.Contains(widths, w):
		return 0, api.ErrArg
	case !isElement(w, key) || !isElement(w, pad):
		return 0, api.ErrRange
	case len(m) > 65536:
		return 0, api.ErrLong
	}
	return hash(w, key, m) ^ pad, api.OK
}

// modelPool is a pool as the chapter describes it.
type modelPool struct {
	width int
	bits  []bool
	used  []int
}

// number returns the number of the width bits from an index on.
func (p *modelPool) number(from int) uint64 {
	var n uint64
	for _, bit := range p.bits[from : from+p.width] {
		n *= 2
		if bit {
			n++
		}
	}
	return n
}

// check returns the error of a number and a message.
func (p *modelPool) check(number int, m []bool) api.Errno {
	switch {
	case number < 0:
		return api.ErrRange
	case number > 65536 || 2*p.width*number+2*p.width > len(p.bits):
		return api.ErrShort
	case slices.Contains(p.used, number):
		return api.ErrOld
	case len(m) > 65536:
		return api.ErrLong
	}
	return api.OK
}

// tag returns the tag of a message with a number that exists.
func (p *modelPool) tag(number int, m []bool) uint64 {
	from := 2 * p.width * number
	return hash(p.width, p.number(from), m) ^ p.number(from+p.width)
}

func (p *modelPool) use(number int) {
	p.used = append(p.used, number)
	slices.Sort(p.used)
}

func (p *modelPool) seal(number int, m []bool) (uint64, api.Errno) {
	if e := p.check(number, m); e != api.OK {
		return 0, e
	}
	p.use(number)
	return p.tag(number, m), api.OK
}

func (p *modelPool) open(number int, m []bool, tag uint64) api.Errno {
	if e := p.check(number, m); e != api.OK {
		return e
	}
	if tag != p.tag(number, m) {
		return api.ErrTag
	}
	p.use(number)
	return api.OK
}

func (p *modelPool) next(side int) (int, api.Errno) {
	if side != 0 && side != 1 {
		return 0, api.ErrArg
	}
	k := side
	for _, number := range p.used {
		if number%2 == side {
			k = number + 2
		}
	}
	if k >= p.room() {
		return 0, api.ErrShort
	}
	return k, api.OK
}

func (p *modelPool) room() int {
	n := 0
	for rest := len(p.bits); rest >= 2*p.width; rest -= 2 * p.width {
		n++
	}
	return n
}

func (p *modelPool) refill(bits []bool) api.Errno {
	if len(p.bits)+len(bits) > 65536 {
		return api.ErrLong
	}
	p.bits = slices.Concat(p.bits, bits)
	return api.OK
}
