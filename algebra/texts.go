package algebra

import "waveplate/api"

// wordBits is how many bits a number has at most.
const wordBits = 64

// byteBits is how many bits a byte has.
const byteBits = 8

// Text returns the text of a bit string.
func Text(b []bool) string {
	text := make([]byte, len(b))
	for i, bit := range b {
		text[i] = '0'
		if bit {
			text[i] = '1'
		}
	}
	return string(text)
}

// Parse returns the bit string with a text.
func Parse(s string) ([]bool, api.Errno) {
	b := make([]bool, 0, len(s))
	for _, c := range s {
		if c != '0' && c != '1' {
			return nil, api.ErrForm
		}
		b = append(b, c == '1')
	}
	return b, api.OK
}

// Word returns the number of a bit string.
func Word(b []bool) (uint64, api.Errno) {
	if len(b) > wordBits {
		return 0, api.ErrLong
	}
	return number(b, 0, len(b)), api.OK
}

// Number returns the bit string with a number.
func Number(n uint64, width int) ([]bool, api.Errno) {
	switch {
	case width < 0 || width > wordBits:
		return nil, api.ErrRange
	case n>>width != 0:
		return nil, api.ErrOver
	}
	return digits(n, width), api.OK
}

// Pack returns the bytes of a bit string.
func Pack(b []bool) []byte {
	p := make([]byte, packedLen(len(b)))
	for i := range p {
		p[i] = byte(number(b, byteBits*i, byteBits))
	}
	return p
}

// Unpack returns the bit string with some bytes.
func Unpack(p []byte, n int) ([]bool, api.Errno) {
	if n < 0 || len(p) != packedLen(n) {
		return nil, api.ErrRange
	}
	b := make([]bool, 0, byteBits*len(p))
	for _, x := range p {
		b = append(b, digits(uint64(x), byteBits)...)
	}
	if Count(b[n:]) > 0 {
		return nil, api.ErrForm
	}
	return b[:n:n], api.OK
}

// packedLen returns how many bytes bit strings of n bits have. (The sum n + 7 may not be an int.)
func packedLen(n int) int {
	full := n / byteBits
	if n%byteBits > 0 {
		full++
	}
	return full
}

// number returns the number of the width bits of b from an index on; what is beyond the end of b is false.
func number(b []bool, from, width int) uint64 {
	var n uint64
	for i := range width {
		n <<= 1
		if from+i < len(b) && b[from+i] {
			n |= 1
		}
	}
	return n
}

// digits returns the last width binary digits of a number.
func digits(n uint64, width int) []bool {
	b := make([]bool, width)
	for i := range b {
		b[i] = n>>(width-1-i)&1 == 1
	}
	return b
}
