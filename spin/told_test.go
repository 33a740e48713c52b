package spin_test

import (
	"math"
	"math/rand"
	"testing"

	"meridian/api"
	"meridian/bits"
	"meridian/spin"
)

// The formulas as the document tells them, each operation a call of its own, which
// rounds what it answers.

func mul(a, b float64) float64 { return float64(a * b) }

func add(a, b float64) float64 { return float64(a + b) }

func sub(a, b float64) float64 { return float64(a - b) }

func div(a, b float64) float64 { return float64(a / b) }

func toldTimes(a, b spin.Q) spin.Q {
	return spin.Q{
		W: sub(sub(sub(mul(a.W, b.W), mul(a.X, b.X)), mul(a.Y, b.Y)), mul(a.Z, b.Z)),
		X: sub(add(add(mul(a.W, b.X), mul(a.X, b.W)), mul(a.Y, b.Z)), mul(a.Z, b.Y)),
		Y: add(add(sub(mul(a.W, b.Y), mul(a.X, b.Z)), mul(a.Y, b.W)), mul(a.Z, b.X)),
		Z: add(sub(add(mul(a.W, b.Z), mul(a.X, b.Y)), mul(a.Y, b.X)), mul(a.Z, b.W)),
	}
}

func toldSize(a spin.Q) float64 {
	return math.Sqrt(add(add(add(mul(a.W, a.W), mul(a.X, a.X)), mul(a.Y, a.Y)), mul(a.Z, a.Z)))
}

func isNoSize(n float64) bool { return n == 0 || math.IsInf(n, 0) || math.IsNaN(n) }

func toldUnit(a spin.Q) (spin.Q, bool) {
	n := toldSize(a)
	if isNoSize(n) {
		return spin.Q{W: 1}, false
	}
	return spin.Q{W: div(a.W, n), X: div(a.X, n), Y: div(a.Y, n), Z: div(a.Z, n)}, true
}

func toldAbout(axis api.Vec, half int) (spin.Q, bool) {
	n := math.Sqrt(add(add(mul(axis.X, axis.X), mul(axis.Y, axis.Y)), mul(axis.Z, axis.Z)))
	if isNoSize(n) {
		return spin.Q{W: 1}, false
	}
	along := func(x float64) float64 { return mul(bits.Sin(half), div(x, n)) }
	return spin.Q{W: bits.Cos(half), X: along(axis.X), Y: along(axis.Y), Z: along(axis.Z)}, true
}

func toldMatrix(a spin.Q) spin.M {
	plus := func(a, b, c, d float64) float64 { return mul(2, add(mul(a, b), mul(c, d))) }
	minus := func(a, b, c, d float64) float64 { return mul(2, sub(mul(a, b), mul(c, d))) }
	w, x, y, z := a.W, a.X, a.Y, a.Z
	return spin.M{
		{X: sub(1, plus(y, y, z, z)), Y: minus(x, y, w, z), Z: plus(x, z, w, y)},
		{X: plus(x, y, w, z), Y: sub(1, plus(x, x, z, z)), Z: minus(y, z, w, x)},
		{X: minus(x, z, w, y), Y: plus(y, z, w, x), Z: sub(1, plus(x, x, y, y))},
	}
}

func toldApply(m spin.M, v api.Vec) api.Vec {
	of := func(row api.Vec) float64 {
		return add(add(mul(row.X, v.X), mul(row.Y, v.Y)), mul(row.Z, v.Z))
	}
	return api.Vec{X: of(m[0]), Y: of(m[1]), Z: of(m[2])}
}

var minusZero = math.Copysign(0, -1)

// odd: numbers at which operations turn.
var odd = []float64{
	0, minusZero, 1, -1, 2, -0.5, 0.1, -0.1, 1e-200, -1e-200, 1e200, -1e200, 0x1p-1074, -0x1p-1074, 0x1p-538, 0x1p-537,
	0x1p511, -0x1p512, math.MaxFloat64, -math.MaxFloat64, math.Inf(1), math.Inf(-1), math.NaN(),
}

// number: one of those, one of any size, or an ordinary one.
func number(dice *rand.Rand) float64 {
	switch dice.Intn(5) {
	case 0:
		return odd[dice.Intn(len(odd))]
	case 1:
		return math.Ldexp(dice.Float64()-0.5, dice.Intn(2100)-1050)
	default:
		return dice.NormFloat64()
	}
}

// quaternion of ordinary numbers alone, or with odd ones among them.
func quaternion(dice *rand.Rand, ordinary bool) spin.Q {
	if ordinary {
		return spin.Q{W: dice.NormFloat64(), X: dice.NormFloat64(), Y: dice.NormFloat64(), Z: dice.NormFloat64()}
	}
	return spin.Q{W: number(dice), X: number(dice), Y: number(dice), Z: number(dice)}
}

func vector(dice *rand.Rand, ordinary bool) api.Vec {
	q := quaternion(dice, ordinary)
	return api.Vec{X: q.X, Y: q.Y, Z: q.Z}
}

func sameVec(a, b api.Vec) bool {
	return bits.Same(a.X, b.X) && bits.Same(a.Y, b.Y) && bits.Same(a.Z, b.Z)
}

func sameQ(a, b spin.Q) bool {
	return bits.Same(a.W, b.W) && bits.Same(a.X, b.X) && bits.Same(a.Y, b.Y) && bits.Same(a.Z, b.Z)
}

func sameM(a, b spin.M) bool {
	return sameVec(a[0], b[0]) && sameVec(a[1], b[1]) && sameVec(a[2], b[2])
}

// needBits: numbers whose bits are written out.
func needBits(t *testing.T, what, want string, l ...float64) {
	t.Helper()
	got := ""
	for _, x := range l {
		got += " " + bits.Text(x)
	}
	if got != " "+want {
		t.Errorf("%s:%s, want %s", what, got, want)
	}
}

func needQBits(t *testing.T, what, want string, q spin.Q) {
	t.Helper()
	needBits(t, what, want, q.W, q.X, q.Y, q.Z)
}
