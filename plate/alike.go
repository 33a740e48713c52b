package plate

import "math/bits"

const (
	longest   = 1 << 38 // a side's square
	thousands = 1000    // what a tolerance is told in
)

func isTolerance(k int) bool { return k >= 0 && k <= thousands }

func (s Shape) isShape() bool {
	return s.Long >= s.Middle && s.Middle >= s.Short && s.Short > 0 && s.Long <= longest && s.Hand >= -1 && s.Hand <= 1
}

func alike(a, b Shape, k int) bool {
	return a.Hand == b.Hand && within(a.Middle, a.Long, b.Middle, b.Long, k) && within(a.Short, a.Long, b.Short, b.Long, k)
}

// within: the side of a long one and the other of another long one are parts of them that
// differ by at most k thousandths. Only the last factor makes a product more than a word.
func within(side, long, other, otherLong, k int) bool {
	off := apart(product(thousands*side, otherLong), product(thousands*other, long))
	return !product(k*long, otherLong).below(off)
}

// A wide number of two words, since products of squares are more than one.
type wide struct{ high, low uint64 }

// product of two numbers that are not below 0.
func product(a, b int) wide {
	high, low := bits.Mul64(uint64(a), uint64(b))
	return wide{high, low}
}

func (a wide) below(b wide) bool {
	return a.high < b.high || a.high == b.high && a.low < b.low
}

// apart: how far two numbers are from each other.
func apart(a, b wide) wide {
	if a.below(b) {
		a, b = b, a
	}
	low, borrow := bits.Sub64(a.low, b.low, 0)
	high, _ := bits.Sub64(a.high, b.high, borrow)
	return wide{high, low}
}
