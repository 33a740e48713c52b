package orbit

import (
	"math"
	"math/big"

	"meridian/api"
	"meridian/bits"
	"meridian/sky"
)

// isAxis: half a great axis; NaN is none.
func isAxis(a float64) bool {
	return a > 0 && !math.IsInf(a, 1)
}

// isEccentricity of an ellipse; NaN is none.
func isEccentricity(e float64) bool {
	return e >= 0 && e < 1
}

func isInstant(t int) bool {
	return within(t, api.MaxTime)
}

// within: a number of at most that size. (The least one has no size among the ints.)
func within(n, most int) bool {
	return n >= -most && n <= most
}

func (k Elements) anglesWithin(most int) bool {
	return within(k.Tilt, most) && within(k.Node, most) && within(k.Peri, most) && within(k.Mean, most)
}

// radians of an angle from 0 to a turn.
func radians(a int) float64 {
	return float64(float64(a) * api.Rad)
}

// gained: the angle, but for whole turns, that is gained in so many microseconds,
// rounded down. The product, and what it is over a day, may be too great for an int.
func gained(daily, micros int) int {
	n := big.NewInt(int64(daily))
	n.Mul(n, big.NewInt(int64(micros)))
	// big's Div rounds down by a divisor above 0, and its Mod is never below 0.
	n.Div(n, big.NewInt(api.DayLong))
	return int(n.Mod(n, big.NewInt(api.Turn)).Int64())
}

// inPlane: where an eccentric anomaly is in the orbit's own plane.
func (k Elements) inPlane(a int) api.Vec {
	small := float64(k.A * bits.Root(1-float64(k.E*k.E)))
	return api.Vec{
		X: float64(k.A * (bits.Cos(a) - k.E)),
		Y: float64(small * bits.Sin(a)),
	}
}

// turns that bring the orbit's plane to where it lies.
func (k Elements) turns() []sky.Step {
	return []sky.Step{{Axis: 2, By: k.Peri}, {Axis: 0, By: k.Tilt}, {Axis: 2, By: k.Node}}
}
