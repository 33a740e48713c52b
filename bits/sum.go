package bits

import (
	"math"
	wide "math/bits"
)

// How a number's bits stand: its sign, its exponent, its fraction.
const (
	fractionLong = 52
	fractionBits = 1<<fractionLong - 1
	exponentBits = 1<<11 - 1
)

// exact: the sizes of numbers, added up without rounding, in units of the least
// number above 0; the lowest word comes first. A size is below 2^2098 units, and
// there are fewer than 2^63 of them: all together are below 2^2161, and 34 words
// have room for 2^2176.
type exact [34]uint64

// add the size of a finite number.
func (e *exact) add(x float64) {
	size, up := parts(x)
	at, in := up/64, up%64
	var carry uint64
	e[at], carry = wide.Add64(e[at], size<<in, 0)
	e[at+1], carry = wide.Add64(e[at+1], size>>(64-in), carry)
	for i := at + 2; carry != 0 && i < len(e); i++ {
		e[i], carry = wide.Add64(e[i], 0, carry)
	}
}

// join another sum to it.
func (e *exact) join(f *exact) {
	var carry uint64
	for i := range e {
		e[i], carry = wide.Add64(e[i], f[i], carry)
	}
}

// parts of a finite number: its size is size units, shifted up.
func parts(x float64) (size uint64, up int) {
	b := math.Float64bits(x)
	size, up = b&fractionBits, int(b>>fractionLong&exponentBits)
	if up == 0 {
		return size, 0 // too small for a leading 1
	}
	return size | 1<<fractionLong, up - 1
}

func (e *exact) less(f *exact) bool {
	for i := len(e) - 1; i >= 0; i-- {
		if e[i] != f[i] {
			return e[i] < f[i]
		}
	}
	return false
}

// without a sum that is not greater: what is left.
func (e *exact) without(f *exact) *exact {
	var left exact
	var borrow uint64
	for i := range e {
		left[i], borrow = wide.Sub64(e[i], f[i], borrow)
	}
	return &left
}

// rounded to the nearest number, from the middle to the even one.
func (e *exact) rounded() float64 {
	up := max(e.long()-fractionLong-1, 0)
	if up >= exponentBits-1 {
		return math.Inf(1) // with the leading 1, the exponent would not fit
	}
	b := e.from(up)
	if up > 0 && e.bit(up-1) == 1 && (b&1 == 1 || e.anyBelow(up-1)) {
		b++
	}
	// The leading 1 counts the exponent up by one; so does a carry out of the
	// fraction, in the end up to that of infinity.
	return math.Float64frombits(b + uint64(up)<<fractionLong)
}

// long: how many bits there are, from the highest 1 down.
func (e *exact) long() int {
	for i := len(e) - 1; i >= 0; i-- {
		if e[i] != 0 {
			return i*64 + wide.Len64(e[i])
		}
	}
	return 0
}

// from a bit on: up to 64 of them.
func (e *exact) from(bit int) uint64 {
	at, in := bit/64, bit%64
	return e[at]>>in | e[at+1]<<(64-in)
}

func (e *exact) bit(bit int) uint64 {
	return e[bit/64] >> (bit % 64) & 1
}

func (e *exact) anyBelow(bit int) bool {
	at, in := bit/64, bit%64
	for _, word := range e[:at] {
		if word != 0 {
			return true
		}
	}
	return e[at]&(1<<in-1) != 0
}
