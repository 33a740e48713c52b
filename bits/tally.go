package bits

import "math"

// Tally of numbers, for those who add them up here and there: nothing is rounded
// until its Sum is asked for, so it hangs neither on an order nor on which of them
// were added apart and joined. It holds for fewer than 2^63 numbers; a zero one has
// none.
type Tally struct {
	above, below exact
	endless      float64 // NaNs and infinities, together: if there are any, they are the sum
	some, other  bool    // there are numbers; there are others than -0
}

// Add a number.
func (t *Tally) Add(x float64) {
	t.some = true
	t.other = t.other || x != 0 || !math.Signbit(x)
	switch {
	case !isFinite(x):
		t.endless += x
	case x > 0:
		t.above.add(x)
	default:
		t.below.add(x)
	}
}

// Join the numbers of another tally to it.
func (t *Tally) Join(u Tally) {
	t.above.join(&u.above)
	t.below.join(&u.below)
	t.endless += u.endless
	t.some = t.some || u.some
	t.other = t.other || u.other
}

// Sum of all numbers, as that of a list.
func (t *Tally) Sum() float64 {
	if t.endless != 0 {
		return t.endless
	}
	if t.some && !t.other {
		return math.Copysign(0, -1) // only -0 alone sums up to it
	}
	if t.above.less(&t.below) {
		return -t.below.without(&t.above).rounded()
	}
	return t.above.without(&t.below).rounded()
}
