package sky_test

import (
	"math"
	"math/big"
	"math/rand"
	"testing"

	"meridian/api"
	"meridian/arc"
	"meridian/bits"
	"meridian/sky"
)

const degree = api.Turn / 360

// The formulas as the document tells them, each operation a call of its own, which
// rounds what it answers.

func mul(a, b float64) float64 { return float64(a * b) }

func add(a, b float64) float64 { return float64(a + b) }

func sub(a, b float64) float64 { return float64(a - b) }

func toldPoint(p sky.Place) api.Vec {
	return api.Vec{
		X: mul(bits.Cos(p.Lat), bits.Cos(p.Lon)),
		Y: mul(bits.Cos(p.Lat), bits.Sin(p.Lon)),
		Z: bits.Sin(p.Lat),
	}
}

func toldWhere(v api.Vec) (sky.Place, bool) {
	for _, x := range []float64{v.X, v.Y, v.Z} {
		if math.IsNaN(x) || math.IsInf(x, 0) {
			return sky.Place{}, false
		}
	}
	if v.X == 0 && v.Y == 0 && v.Z == 0 {
		return sky.Place{}, false
	}
	lat, ok := bits.Angle(v.Z, math.Sqrt(add(mul(v.X, v.X), mul(v.Y, v.Y))))
	if !ok {
		return sky.Place{}, false
	}
	lon := 0
	if v.X != 0 || v.Y != 0 {
		lon, _ = bits.Angle(v.Y, v.X)
	}
	return sky.Place{Lon: lon, Lat: arc.Signed(lat)}, true
}

// toldEra: by fractions.
func toldEra(t *testing.T, n int) int {
	first, ok := new(big.Rat).SetString("0.7790572732640")
	daily, fine := new(big.Rat).SetString("1.00273781191135448")
	if !ok || !fine {
		t.Fatal("no fractions")
	}
	exact := daily.Mul(daily, big.NewRat(int64(n), 24*60*60*1000000))
	exact.Add(exact, first)
	exact.Mul(exact, big.NewRat(1296000000000, 1))
	down := new(big.Int).Div(exact.Num(), exact.Denom())
	return int(down.Mod(down, big.NewInt(1296000000000)).Int64())
}

func toldAbove(hour, dec, lat int) (alt, az int) {
	ch, sh, cd, sd, cl, sl := bits.Cos(hour), bits.Sin(hour), bits.Cos(dec), bits.Sin(dec), bits.Cos(lat), bits.Sin(lat)
	p, _ := toldWhere(api.Vec{
		X: sub(mul(sd, cl), mul(mul(cd, ch), sl)),
		Y: sub(0, mul(cd, sh)),
		Z: add(mul(sd, sl), mul(mul(cd, ch), cl)),
	})
	return p.Lat, p.Lon
}

func toldBetween(a, b sky.Place) int {
	p, q := toldPoint(a), toldPoint(b)
	x := sub(mul(p.Y, q.Z), mul(p.Z, q.Y))
	y := sub(mul(p.Z, q.X), mul(p.X, q.Z))
	z := sub(mul(p.X, q.Y), mul(p.Y, q.X))
	d := add(add(mul(p.X, q.X), mul(p.Y, q.Y)), mul(p.Z, q.Z))
	far, _ := bits.Angle(math.Sqrt(add(add(mul(x, x), mul(y, y)), mul(z, z))), d)
	return far
}

func toldStep(axis, by int, v api.Vec) api.Vec {
	c, s := bits.Cos(by), bits.Sin(by)
	switch axis {
	case 2:
		return api.Vec{X: sub(mul(v.X, c), mul(v.Y, s)), Y: add(mul(v.X, s), mul(v.Y, c)), Z: v.Z}
	case 0:
		return api.Vec{X: v.X, Y: sub(mul(v.Y, c), mul(v.Z, s)), Z: add(mul(v.Y, s), mul(v.Z, c))}
	default:
		return api.Vec{X: add(mul(v.Z, s), mul(v.X, c)), Y: v.Y, Z: sub(mul(v.Z, c), mul(v.X, s))}
	}
}

func toldAlong(l []sky.Step, v api.Vec) api.Vec {
	for _, s := range l {
		v = toldStep(s.Axis, s.By, v)
	}
	return v
}

func toldAgainst(l []sky.Step, v api.Vec) api.Vec {
	for n := len(l); n > 0; n-- {
		v = toldStep(l[n-1].Axis, -l[n-1].By, v)
	}
	return v
}

var minusZero = math.Copysign(0, -1)

// odd: numbers at which operations turn.
var odd = []float64{
	0, minusZero, 1, -1, 2, -0.5, 0.1, -0.1, 1e-200, -1e-200, 1e200, -1e200, 0x1p-1074, -0x1p-1074, 0x1p-538, 0x1p-537,
	0x1p511, -0x1p512, math.MaxFloat64, -math.MaxFloat64, math.Inf(1), math.Inf(-1), math.NaN(),
}

// number: one of those, one of any size, or an ordinary one.
func number(dice *rand.Rand) float64 {
	switch dice.Intn(5) {
	case 0:
		return odd[dice.Intn(len(odd))]
	case 1:
		return math.Ldexp(dice.Float64()-0.5, dice.Intn(2100)-1050)
	default:
		return dice.NormFloat64()
	}
}

func vector(dice *rand.Rand, ordinary bool) api.Vec {
	if ordinary {
		return api.Vec{X: dice.NormFloat64(), Y: dice.NormFloat64(), Z: dice.NormFloat64()}
	}
	return api.Vec{X: number(dice), Y: number(dice), Z: number(dice)}
}

// angle of any size, near an eighth of a turn, or within a turn.
func angle(dice *rand.Rand) int {
	switch dice.Intn(3) {
	case 0:
		return int(dice.Uint64()) >> dice.Intn(64)
	case 1:
		return (dice.Intn(33)-16)*(api.Turn/8) + dice.Intn(5) - 2
	default:
		return dice.Intn(api.Turn)
	}
}

func place(dice *rand.Rand) sky.Place {
	return sky.Place{Lon: angle(dice), Lat: angle(dice)}
}

func sameVec(a, b api.Vec) bool {
	return bits.Same(a.X, b.X) && bits.Same(a.Y, b.Y) && bits.Same(a.Z, b.Z)
}

func textOf(v api.Vec) string {
	return bits.Text(v.X) + " " + bits.Text(v.Y) + " " + bits.Text(v.Z)
}

// needBits: a vector whose bits are written out.
func needBits(t *testing.T, what string, got api.Vec, want string) {
	t.Helper()
	if textOf(got) != want {
		t.Errorf("%s: %s, want %s", what, textOf(got), want)
	}
}
