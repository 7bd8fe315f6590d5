package algebra

import (
	"bytes"

	"waveplate/api"
)

// points are places and, for each of them, the values there of one polynomial for each byte of a secret. The first n elements of the arrays count.
type points struct {
	n      int
	places [api.MaxShares]byte
	values [api.MaxShares][]byte
}

// add adds a place and its values.
func (p *points) add(place byte, values []byte) {
	p.places[p.n] = place
	p.values[p.n] = values
	p.n++
}

// Split returns the shares of a secret.
func Split(secret []byte, n, k int, coins []byte) ([]api.Share, api.Errno) {
	switch {
	case len(secret) > api.MaxSecret:
		return nil, api.ErrLong
	case !isPlace(n), k < 1, k > n:
		return nil, api.ErrRange
	case len(coins) != (k-1)*len(secret):
		return nil, api.ErrEqual
	}
	powers := [][]byte{secret}
	for i := range k - 1 {
		powers = append(powers, every(coins, i, k-1))
	}
	shares := make([]api.Share, n)
	for i := range shares {
		x := byte(i + 1)
		shares[i] = api.Share{X: x, Y: valuesAt(powers, x)}
	}
	return shares, api.OK
}

// Join returns the secret of some shares.
func Join(l []api.Share, k int) ([]byte, api.Errno) {
	switch {
	case !isPlace(k):
		return nil, api.ErrRange
	case len(l) < k:
		return nil, api.ErrShort
	}
	if e := checkShares(l, len(l[0].Y)); e != api.OK {
		return nil, e
	}
	var p points
	for _, s := range l[:k] {
		p.add(s.X, s.Y)
	}
	powers := p.powers()
	for _, s := range l[k:] {
		if !bytes.Equal(valuesAt(powers, s.X), s.Y) {
			return nil, api.ErrSum
		}
	}
	return powers[0], api.OK
}

// Explain returns the coins with which a secret has some shares.
func Explain(l []api.Share, k int, secret []byte) ([]byte, api.Errno) {
	switch {
	case len(secret) > api.MaxSecret:
		return nil, api.ErrLong
	case !isPlace(k):
		return nil, api.ErrRange
	case len(l) >= k:
		return nil, api.ErrMany
	}
	if e := checkShares(l, len(secret)); e != api.OK {
		return nil, e
	}
	var p points
	p.add(0, secret)
	for _, s := range l {
		p.add(s.X, s.Y)
	}
	coins := make([]byte, (k-1)*len(secret))
	for i, power := range p.powers()[1:] {
		for j, coin := range power {
			coins[j*(k-1)+i] = coin
		}
	}
	return coins, api.OK
}

// isPlace reports whether a number is a place of a share, which a number of shares has to be too.
func isPlace(n int) bool { return n >= 1 && n <= api.MaxShares }

// checkShares returns the fault of the first of these shares that has one; the secret of all of them has to have this length.
func checkShares(l []api.Share, length int) api.Errno {
	var have [api.MaxShares + 1]bool
	for _, s := range l {
		switch {
		case !isPlace(int(s.X)):
			return api.ErrArg
		case have[s.X]:
			return api.ErrHave
		case len(s.Y) != length:
			return api.ErrEqual
		case length > api.MaxSecret:
			return api.ErrLong
		}
		have[s.X] = true
	}
	return api.OK
}

// every returns the elements of a byte string with the indexes from, from + step, from + 2 step and so on.
func every(l []byte, from, step int) []byte {
	var picked []byte
	for i := from; i < len(l); i += step {
		picked = append(picked, l[i])
	}
	return picked
}

// valuesAt returns the values at x of polynomials whose coefficients of the power i are in powers[i].
func valuesAt(powers [][]byte, x byte) []byte {
	values := make([]byte, len(powers[0]))
	for i := len(powers) - 1; i >= 0; i-- {
		values = sum(scaled(values, x), powers[i], xor)
	}
	return values
}

// scaled returns the products of all elements and a factor.
func scaled(l []byte, factor byte) []byte {
	products := make([]byte, len(l))
	for i, x := range l {
		products[i] = mulBytes(x, factor)
	}
	return products
}

// powers returns the coefficients of the polynomials, of a degree below n, that have the values at the places: for each power those of all polynomials.
func (p *points) powers() [][]byte {
	powers := make([][]byte, p.n)
	for i := range powers {
		powers[i] = make([]byte, len(p.values[0]))
	}
	for at := range p.n {
		weights := p.weights(at)
		for i := range powers {
			powers[i] = sum(powers[i], scaled(p.values[at], weights[i]), xor)
		}
	}
	return powers
}

// weights returns the coefficients of the polynomial, of a degree below n, that is 1 at the place with an index and 0 at the other places: the product of (x - place) / (own place - place) over these.
func (p *points) weights(at int) [api.MaxShares]byte {
	weights := [api.MaxShares]byte{1}
	for i, place := range p.places[:p.n] {
		if i != at {
			// In this field the difference of two elements is their sum.
			quotient := byte(byteField().inverse(uint64(p.places[at] ^ place)))
			weights = timesLinear(weights, place, quotient)
		}
	}
	return weights
}

// timesLinear returns the product of a polynomial and factor (x - root).
func timesLinear(poly [api.MaxShares]byte, root, factor byte) [api.MaxShares]byte {
	var product [api.MaxShares]byte
	for i := range product {
		product[i] = mulBytes(poly[i], root)
		if i > 0 {
			product[i] ^= poly[i-1]
		}
		product[i] = mulBytes(product[i], factor)
	}
	return product
}

// mulBytes returns the product of two bytes in their field.
func mulBytes(a, b byte) byte { return byte(byteField().mul(uint64(a), uint64(b))) }
