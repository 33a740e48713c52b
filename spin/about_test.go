package spin_test

import (
	"math"
	"math/rand"
	"testing"

	"meridian/api"
	"meridian/bits"
	"meridian/spin"
)

// P41: About, its bits written out.
func TestKnownAbout(t *testing.T) {
	for _, c := range []struct {
		axis api.Vec
		half int
		want string
	}{
		{api.Vec{X: 0.1, Y: -0.2, Z: 0.7}, 123456789012, "3fea6feaaae21047 3fb3a0e064e0fb11 bfc3a0e064e0fb11 3fe12cc45844dbae"},
		{api.Vec{X: 1, Y: 2, Z: 3}, -5, "3ff0000000000000 bd9c7e3ff7b45de8 bdac7e3ff7b45de8 bdb55eaff9c7466e"},
		{api.Vec{X: 3, Y: -1, Z: 0.5}, math.MinInt, "bfeb245cd246419a bfdfc421701034a0 3fc52d6ba00acdc0 bfb52d6ba00acdc0"},
		{api.Vec{X: -7}, 0, "3ff0000000000000 8000000000000000 0000000000000000 0000000000000000"},
		{api.Vec{Y: 0x1p-537}, api.Turn / 4, "8000000000000000 0000000000000000 3ff0000000000000 0000000000000000"},
		{api.Vec{Z: -0x1p511}, api.Turn / 2, "bff0000000000000 8000000000000000 8000000000000000 0000000000000000"},
	} {
		q, ok := spin.About(c.axis, c.half)
		if !ok {
			t.Errorf("About(%x, %d) is none", c.axis, c.half)
		}
		needQBits(t, "About", c.want, q)
	}
}

// P41: About to the bit, of ordinary and of odd axes and all angles.
func TestAbout(t *testing.T) {
	dice := rand.New(rand.NewSource(43))
	for n := range 20000 {
		axis, half := vector(dice, n%2 == 0), int(dice.Uint64())>>dice.Intn(64)
		got, ok := spin.About(axis, half)
		if want, wantOK := toldAbout(axis, half); ok != wantOK || !sameQ(got, want) {
			t.Fatalf("About(%x, %d) = %x, %v, want %x, %v", axis, half, got, ok, want, wantOK)
		}
	}
}

// P41: axes that have no length, or no end.
func TestAboutNothing(t *testing.T) {
	no := []api.Vec{{}, {X: minusZero, Y: minusZero, Z: minusZero}, {X: math.Inf(1), Y: math.NaN()}, {X: 0x1p511, Y: 0x1p511, Z: 0x1.8p511}}
	for _, x := range []float64{0x1p-538, -0x1p-1074, 0x1p512, math.MaxFloat64, math.Inf(1), math.Inf(-1), math.NaN()} {
		no = append(no, api.Vec{X: x}, api.Vec{Y: x}, api.Vec{Z: x}, api.Vec{X: x, Y: x, Z: x})
	}
	for _, axis := range no {
		for _, half := range []int{0, 5, api.Turn / 8, math.MaxInt, math.MinInt} {
			if q, ok := spin.About(axis, half); ok || !sameQ(q, spin.Q{W: 1}) {
				t.Errorf("About(%x, %d) = %x, %v, want none", axis, half, q, ok)
			}
		}
	}
}

// P41: it turns by twice half, against the clock for who looks from the axis' point.
func TestWhichWay(t *testing.T) {
	x, y, z := api.Vec{X: 1}, api.Vec{Y: 1}, api.Vec{Z: 1}
	for _, c := range []struct{ axis, from, to api.Vec }{{z, x, y}, {x, y, z}, {y, z, x}} {
		q, _ := spin.About(c.axis, api.Turn/8)
		needNear(t, "a quarter turn", q.Turn(c.from), c.to)
		needNear(t, "the axis", q.Turn(c.axis), c.axis)
		against, _ := spin.About(api.Vec{X: -c.axis.X, Y: -c.axis.Y, Z: -c.axis.Z}, api.Turn/8)
		needNear(t, "a quarter turn about the other end", against.Turn(c.to), c.from)
		less, _ := spin.About(c.axis, -api.Turn/8)
		needNear(t, "a quarter turn with the clock", less.Turn(c.to), c.from)
	}
	for degrees := range 360 {
		turn := degrees * (api.Turn / 360)
		q, _ := spin.About(api.Vec{Z: 0.3}, turn/2)
		needNear(t, "a turn", q.Turn(x), api.Vec{X: bits.Cos(turn), Y: bits.Sin(turn)})
	}
}

func needNear(t *testing.T, what string, got, want api.Vec) {
	t.Helper()
	const most = 1e-14
	if !(math.Abs(got.X-want.X) < most && math.Abs(got.Y-want.Y) < most && math.Abs(got.Z-want.Z) < most) {
		t.Errorf("%s = %v, want %v", what, got, want)
	}
}
