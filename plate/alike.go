package plate

import "meridian/wide"

const (
	longest   = 1 << 38 // a side's square
	thousands = 1000    // what a tolerance is told in
)

func isTolerance(k int) bool { return k >= 0 && k <= thousands }

func (s Shape) isShape() bool {
	return s.Long >= s.Middle && s.Middle >= s.Short && s.Short > 0 && s.Long <= longest && s.Hand >= -1 && s.Hand <= 1
}

func alike(a, b Shape, k int) bool {
	return a.Hand == b.Hand && within(a.Middle, a.Long, b.Middle, b.Long, k) && within(a.Short, a.Long, b.Short, b.Long, k)
}

// within: the side of a long one and the other of another long one are parts of them that
// differ by at most k thousandths. Only the last factor makes a product more than a word.
func within(side, long, other, otherLong, k int) bool {
	off := wide.Apart(wide.Product(thousands*side, otherLong), wide.Product(thousands*other, long))
	return wide.Product(k*long, otherLong).Compare(off) >= 0
}
