package distil

import (
	"maps"
	"slices"

	"waveplate/algebra"
	"waveplate/api"
)

// Pool is key with which messages are authenticated.
type Pool struct {
	// self points to the pool itself: only what NewPool and Copy return is valid, neither a zero value nor an assigned copy.
	self  *Pool
	width int
	bits  []bool
	numbers
}

// NewPool returns a pool.
func NewPool(w int, bits []bool) (*Pool, api.Errno) {
	switch {
	case !isWidth(w):
		return nil, api.ErrArg
	case len(bits) > api.MaxBits:
		return nil, api.ErrLong
	}
	p := &Pool{width: w, bits: slices.Clone(bits), numbers: numbers{used: map[int]bool{}}}
	p.self = p
	return p, api.OK
}

// Seal returns the tag of a message.
func (p *Pool) Seal(number int, m []bool) (uint64, api.Errno) {
	var sealed uint64
	e := p.spend(number, m, func(tag uint64) api.Errno {
		sealed = tag
		return api.OK
	})
	return sealed, e
}

// Open checks the tag of a message.
func (p *Pool) Open(number int, m []bool, tag uint64) api.Errno {
	return p.spend(number, m, func(right uint64) api.Errno {
		if tag != right {
			return api.ErrTag
		}
		return api.OK
	})
}

// Next returns the number that a station takes next.
func (p *Pool) Next(side int) (int, api.Errno) {
	switch {
	case !p.valid():
		return 0, api.ErrNil
	case side != 0 && side != 1:
		return 0, api.ErrArg
	}
	number := p.behind(side)
	if !p.exists(number) {
		return 0, api.ErrShort
	}
	return number, api.OK
}

// Refill adds bits.
func (p *Pool) Refill(bits []bool) api.Errno {
	switch {
	case !p.valid():
		return api.ErrNil
	case len(bits) > api.MaxBits-len(p.bits):
		return api.ErrLong
	}
	p.bits = append(p.bits, bits...)
	return api.OK
}

// Room returns how many numbers exist.
func (p *Pool) Room() int {
	if !p.valid() {
		return 0
	}
	return len(p.bits) / (2 * p.width)
}

// Used returns the used numbers.
func (p *Pool) Used() []int {
	if !p.valid() {
		return nil
	}
	return p.sorted()
}

// Copy returns a copy of a pool.
func (p *Pool) Copy() *Pool {
	if !p.valid() {
		return nil
	}
	c := *p
	c.self = &c
	c.bits, c.used = slices.Clone(p.bits), maps.Clone(p.used)
	return &c
}

func (p *Pool) valid() bool { return p != nil && p.self == p }

// exists reports whether a number that is not below 0 exists.
func (p *Pool) exists(number int) bool { return number < p.Room() }

// spend computes the tag of a message with a number, and uses up the number, unless what is done with the tag is an error.
func (p *Pool) spend(number int, m []bool, do func(tag uint64) api.Errno) api.Errno {
	switch {
	case !p.valid():
		return api.ErrNil
	case number < 0:
		return api.ErrRange
	case !p.exists(number):
		return api.ErrShort
	case p.isUsed(number):
		return api.ErrOld
	}
	tag, e := Tag(p.width, p.word(2*number), p.word(2*number+1), m)
	if e != api.OK {
		return e
	}
	if e := do(tag); e != api.OK {
		return e
	}
	p.use(number)
	return api.OK
}

// word returns the word with an index, as a number: the words of the number i are 2 i, its key, and 2 i + 1, its pad.
func (p *Pool) word(i int) uint64 {
	from := p.width * i
	word, _ := algebra.Word(p.bits[from : from+p.width])
	return word
}

// numbers are the used numbers of a pool.
type numbers struct {
	used map[int]bool
}

func (n numbers) isUsed(number int) bool { return n.used[number] }

func (n numbers) use(number int) { n.used[number] = true }

// behind returns the number that comes behind all used ones of a side.
func (n numbers) behind(side int) int {
	number := side
	for used := range n.used {
		if used%2 == side {
			number = max(number, used+2)
		}
	}
	return number
}

// sorted returns the used numbers in increasing order.
func (n numbers) sorted() []int { return slices.Sorted(maps.Keys(n.used)) }
