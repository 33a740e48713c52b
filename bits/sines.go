package bits

import (
	"math"

	"meridian/api"
	"meridian/arc"
)

// folded: how many quarter turns are nearest to an angle, left by 4, and how far
// the angle is from them, in radians: near 0, where few terms of a series will do.
func folded(a int) (quarter int, x float64) {
	a = arc.Norm(a)
	quarter = (a + api.Turn/8) / (api.Turn / 4)
	return quarter % 4, float64(float64(a-quarter*(api.Turn/4)) * api.Rad)
}

// sine of a number of at most some 0.79 in size.
func sine(x float64) float64 {
	// 1 over the factorials of 1, 3, 5 .. 17, with signs that take turns.
	return float64(x * series(x, [9]float64{
		1,
		-1.0 / 6,
		1.0 / 120,
		-1.0 / 5040,
		1.0 / 362880,
		-1.0 / 39916800,
		1.0 / 6227020800,
		-1.0 / 1307674368000,
		1.0 / 355687428096000,
	}))
}

// cosine of a number of at most some 0.79 in size.
func cosine(x float64) float64 {
	// 1 over the factorials of 0, 2, 4 .. 16, with signs that take turns.
	return series(x, [9]float64{
		1,
		-1.0 / 2,
		1.0 / 24,
		-1.0 / 720,
		1.0 / 40320,
		-1.0 / 3628800,
		1.0 / 479001600,
		-1.0 / 87178291200,
		1.0 / 20922789888000,
	})
}

// series in the square of x: reckoned from the last coefficient to the first.
func series(x float64, coefficients [9]float64) float64 {
	z := float64(x * x)
	sum := coefficients[8]
	for k := 7; k >= 0; k-- {
		sum = coefficients[k] + float64(z*sum)
	}
	return sum
}

// firstQuarter: the angle of a point of the first quarter, rounded down.
func firstQuarter(y, x float64) int {
	low, high := 0, api.Turn/4+1
	for high-low > 1 {
		middle := (low + high) / 2
		if Sin(middle)*x <= Cos(middle)*y {
			low = middle
		} else {
			high = middle
		}
	}
	return low
}

func isFinite(x float64) bool {
	return !math.IsNaN(x) && !math.IsInf(x, 0)
}
