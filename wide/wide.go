// Package wide reckons with whole numbers of two words, from 0 on, for products that are
// more than one word.
package wide

import (
	"cmp"
	"math/bits"
)

// Number below 2^128.
type Number struct{ high, low uint64 }

// Product of two numbers that are not below 0.
func Product(a, b int) Number {
	high, low := bits.Mul64(uint64(a), uint64(b))
	return Number{high, low}
}

// Times a number that is not below 0; the product must be a Number again.
func (a Number) Times(n int) Number {
	high, low := bits.Mul64(a.low, uint64(n))
	return Number{high + a.high*uint64(n), low}
}

// Plus another one; the sum must be a Number again.
func (a Number) Plus(b Number) Number {
	low, carry := bits.Add64(a.low, b.low, 0)
	high, _ := bits.Add64(a.high, b.high, carry)
	return Number{high, low}
}

// Compare: -1, if it is less than the other one; 1, if it is more; else 0.
func (a Number) Compare(b Number) int {
	return cmp.Or(cmp.Compare(a.high, b.high), cmp.Compare(a.low, b.low))
}

// Apart: how far two numbers are from each other.
func Apart(a, b Number) Number {
	if a.Compare(b) < 0 {
		a, b = b, a
	}
	low, borrow := bits.Sub64(a.low, b.low, 0)
	high, _ := bits.Sub64(a.high, b.high, borrow)
	return Number{high, low}
}
