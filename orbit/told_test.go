package orbit_test

import (
	"math"
	"math/big"
	"math/rand"
	"testing"

	"meridian/api"
	"meridian/bits"
	"meridian/orbit"
)

const degree = api.Turn / 360

// The formulas as the document tells them, each operation a call of its own, which
// rounds what it answers.

func mul(a, b float64) float64 { return float64(a * b) }

func add(a, b float64) float64 { return float64(a + b) }

func sub(a, b float64) float64 { return float64(a - b) }

// toldNorm: by numbers of any size.
func toldNorm(a int) int {
	return int(new(big.Int).Mod(big.NewInt(int64(a)), big.NewInt(1296000000000)).Int64())
}

func toldKepler(m int, e float64) int {
	m = toldNorm(m)
	f := func(a int) float64 {
		return sub(sub(mul(float64(a), api.Rad), mul(e, bits.Sin(a))), mul(float64(m), api.Rad))
	}
	lo, hi := 0, 1296000000000
	for hi-lo > 1 {
		if k := (lo + hi) / 2; f(k) <= 0 {
			lo = k
		} else {
			hi = k
		}
	}
	return lo
}

// toldMean: by fractions.
func toldMean(k orbit.Elements, t int) int {
	past := big.NewRat(int64(t)-int64(k.Epoch), 24*60*60*1000000)
	past.Mul(past, big.NewRat(int64(k.Daily), 1))
	down := new(big.Int).Div(past.Num(), past.Denom())
	down.Add(down, big.NewInt(int64(k.Mean)))
	return int(down.Mod(down, big.NewInt(1296000000000)).Int64())
}

func toldAt(k orbit.Elements, t int) api.Vec {
	a := toldKepler(toldMean(k, t), k.E)
	v := api.Vec{
		X: mul(k.A, sub(bits.Cos(a), k.E)),
		Y: mul(mul(k.A, math.Sqrt(sub(1, mul(k.E, k.E)))), bits.Sin(a)),
	}
	turnZ := func(by int) {
		c, s := bits.Cos(by), bits.Sin(by)
		v.X, v.Y = sub(mul(v.X, c), mul(v.Y, s)), add(mul(v.X, s), mul(v.Y, c))
	}
	turnZ(k.Peri)
	c, s := bits.Cos(k.Tilt), bits.Sin(k.Tilt)
	v.Y, v.Z = sub(mul(v.Y, c), mul(v.Z, s)), add(mul(v.Y, s), mul(v.Z, c))
	turnZ(k.Node)
	return v
}

func toldCross(v, w api.Vec) api.Vec {
	return api.Vec{
		X: sub(mul(v.Y, w.Z), mul(v.Z, w.Y)),
		Y: sub(mul(v.Z, w.X), mul(v.X, w.Z)),
		Z: sub(mul(v.X, w.Y), mul(v.Y, w.X)),
	}
}

func toldLength(v api.Vec) float64 {
	return math.Sqrt(add(add(mul(v.X, v.X), mul(v.Y, v.Y)), mul(v.Z, v.Z)))
}

func toldTimes(x float64, v api.Vec) api.Vec {
	return api.Vec{X: mul(x, v.X), Y: mul(x, v.Y), Z: mul(x, v.Z)}
}

func toldPlus(v, w api.Vec) api.Vec {
	return api.Vec{X: add(v.X, w.X), Y: add(v.Y, w.Y), Z: add(v.Z, w.Z)}
}

func toldGibbs(a, b, c api.Vec, mu float64) (api.Vec, bool) {
	la, lb, lc := toldLength(a), toldLength(b), toldLength(c)
	n := toldPlus(toldPlus(toldTimes(la, toldCross(b, c)), toldTimes(lb, toldCross(c, a))), toldTimes(lc, toldCross(a, b)))
	d := toldPlus(toldPlus(toldCross(a, b), toldCross(b, c)), toldCross(c, a))
	s := toldPlus(toldPlus(toldTimes(sub(lb, lc), a), toldTimes(sub(lc, la), b)), toldTimes(sub(la, lb), c))
	fast := math.Sqrt(mu / mul(toldLength(n), toldLength(d)))
	v := toldTimes(fast, toldPlus(toldTimes(1/lb, toldCross(d, b)), s))
	for _, x := range []float64{v.X, v.Y, v.Z} {
		if math.IsNaN(x) || math.IsInf(x, 0) {
			return api.Vec{}, false
		}
	}
	return v, true
}

var minusZero = math.Copysign(0, -1)

// noInstants: numbers that are no instants.
var noInstants = []int{api.MaxTime + 1, -api.MaxTime - 1, math.MaxInt, math.MinInt}

// noEccentricities: numbers that are not from 0 on, below 1.
var noEccentricities = []float64{
	1, math.Nextafter(1, 2), 2, math.MaxFloat64, math.Inf(1), math.NaN(), -0x1p-1074, -0.1, -1, -math.MaxFloat64, math.Inf(-1),
}

// eccentricity: at the edges, near 1, or anywhere.
func eccentricity(dice *rand.Rand) float64 {
	switch dice.Intn(4) {
	case 0:
		return []float64{0, minusZero, 0x1p-1074, 1e-300, 0.5, 1 - 0x1p-53, 1 - 0x1p-52}[dice.Intn(7)]
	case 1:
		return 1 - math.Ldexp(1-dice.Float64()/2, -dice.Intn(52))
	default:
		return dice.Float64()
	}
}

// sized: a number of any size up to the most.
func sized(dice *rand.Rand, most int) int {
	switch dice.Intn(5) {
	case 0:
		return []int{0, 1, -1, most, -most, most - 1, 1 - most}[dice.Intn(7)]
	default:
		return int(dice.Uint64()) >> dice.Intn(64) % (most + 1)
	}
}

// elements that are valid, of all sizes.
func elements(dice *rand.Rand) orbit.Elements {
	k := orbit.Elements{
		A: dice.ExpFloat64() + 0.01, E: eccentricity(dice),
		Tilt: sized(dice, api.MaxAngle), Node: sized(dice, api.MaxAngle), Peri: sized(dice, api.MaxAngle), Mean: sized(dice, api.MaxAngle),
		Epoch: sized(dice, api.MaxTime), Daily: sized(dice, 100*api.Turn),
	}
	if dice.Intn(8) == 0 {
		k.A = []float64{0x1p-1074, 0x1p-1022, 1e-200, 1e300, math.MaxFloat64}[dice.Intn(5)]
	}
	return k
}

func sameVec(a, b api.Vec) bool {
	return bits.Same(a.X, b.X) && bits.Same(a.Y, b.Y) && bits.Same(a.Z, b.Z)
}

func textOf(v api.Vec) string {
	return bits.Text(v.X) + " " + bits.Text(v.Y) + " " + bits.Text(v.Z)
}

// needBits: a vector whose bits are written out.
func needBits(t *testing.T, what string, got api.Vec, want string) {
	t.Helper()
	if textOf(got) != want {
		t.Errorf("%s: %s, want %s", what, textOf(got), want)
	}
}
