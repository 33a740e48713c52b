package light

import (
	wide "math/bits"

	"meridian/api"
	"meridian/arc"
	"meridian/bits"
)

const fastest = 1 << 40 // a wave's angle, or a time, in size

func isFast(n int) bool { return n < -fastest || n > fastest }

// powerOf the wave that turns by w in a unit of time. A product stands in float64(..):
// else Go may take it together with the sum on some machines.
func powerOf(w int, times []int, light []float64) float64 {
	var x complex128
	for i, t := range times {
		a := turned(w, t)
		x += complex(float64(light[i]*bits.Cos(a)), -float64(light[i]*bits.Sin(a)))
	}
	return float64(real(x)*real(x)) + float64(imag(x)*imag(x))
}

// turned by w so many times, but for whole turns. The product may be too great for an
// int, also that of the Norms.
func turned(w, times int) int {
	high, low := wide.Mul64(uint64(arc.Norm(w)), uint64(arc.Norm(times)))
	return int(wide.Rem64(high, low, api.Turn))
}
