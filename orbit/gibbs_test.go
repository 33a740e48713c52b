package orbit_test

import (
	"math"
	"math/rand"
	"testing"

	"meridian/api"
	"meridian/orbit"
)

// P63: velocities, written out.
func TestKnownGibbs(t *testing.T) {
	x, y, z := api.Vec{X: 1}, api.Vec{Y: 1}, api.Vec{Z: 1}
	back := api.Vec{X: -1}
	for _, c := range []struct {
		a, b, c api.Vec
		mu      float64
		want    string
	}{
		{api.Vec{X: 1, Y: 2, Z: 3}, api.Vec{X: -1, Y: 3, Z: 2}, api.Vec{X: -3, Y: 1, Z: -1}, 0.3, "bfcab561b52d3183 3f969019ff738353 bfc46079ec5c08fd"},
		{api.Vec{X: -294.32, Y: 4265.1, Z: 5986.7}, api.Vec{X: -1365.5, Y: 3637.6, Z: 6346.8}, api.Vec{X: -2940.3, Y: 2473.7, Z: 6555.8}, 398600.4418, "c018de9f816ed20b c0100c75a063b7cd 3ff99571f091f2d6"},
		{api.Vec{X: 0.1, Y: 0.2, Z: 0.3}, api.Vec{X: 0.3, Y: 0.2, Z: 0.1}, api.Vec{X: 0.5, Y: 0.1, Z: -0.4}, 1, "3ff6524cbfea3c96 bfc76bd66e0c0573 bfff1abd292ebe9f"},
		{api.Vec{X: 0.1, Y: -0.2, Z: 0.7}, api.Vec{X: 0.6, Y: 0.1, Z: -0.3}, api.Vec{X: -0.5, Y: 0.4, Z: 0.2}, 2.5, "bfed1fdafa228718 3ff221ecccc4e5c2 bff27524b007278b"},
		{api.Vec{X: 1}, api.Vec{Y: 2}, api.Vec{Z: 3}, 5, "bfe92b0bd008e5d4 3ff0c75d355b43e3 3fe92b0bd008e5d4"},
		{x, y, z, 1, "bfe279a74590331d 0000000000000000 3fe279a74590331d"},
		{x, y, back, 1, "bff0000000000000 0000000000000000 0000000000000000"},
		{x, y, back, 0, "8000000000000000 0000000000000000 0000000000000000"},
		{x, y, back, minusZero, "0000000000000000 8000000000000000 8000000000000000"},
		{x, y, back, 1.7e308, "dfef1e4ca52e6b9a 0000000000000000 0000000000000000"},
		{x, y, back, 0x1p-1074, "8000000000000000 0000000000000000 0000000000000000"},
		{api.Vec{X: 1e-50}, api.Vec{Y: 1e-50}, api.Vec{Z: 1e-50}, 1e-300, "a5ef44020a6971b1 0000000000000000 25ef44020a6971b1"},
		{api.Vec{X: 1e80}, api.Vec{Y: 1e80}, api.Vec{Z: 1e80}, 1, "8000000000000000 0000000000000000 0000000000000000"},
	} {
		v, ok := orbit.Gibbs(c.a, c.b, c.c, c.mu)
		if !ok {
			t.Error(c.a, c.b, c.c, c.mu, ok)
		}
		needBits(t, "Gibbs", v, c.want)
	}
}

// P63: places and pulls of which no velocity is found.
func TestNoGibbs(t *testing.T) {
	x, y, back := api.Vec{X: 1}, api.Vec{Y: 1}, api.Vec{X: -1}
	type call struct {
		a, b, c api.Vec
		mu      float64
	}
	l := []call{
		{api.Vec{}, y, back, 1}, {x, api.Vec{}, back, 1}, {x, y, api.Vec{}, 1}, {api.Vec{}, api.Vec{}, api.Vec{}, 0},
		{x, x, x, 1}, {x, x, y, 1}, {x, back, x, 1}, {api.Vec{X: 1, Y: 2, Z: 3}, api.Vec{X: 2, Y: 4, Z: 6}, api.Vec{X: 3, Y: 6, Z: 9}, 1},
		{api.Vec{X: 1e-170}, api.Vec{Y: 1e-170}, api.Vec{X: -1e-170}, 1}, {api.Vec{X: 1e160}, api.Vec{Y: 1e160}, api.Vec{X: -1e160}, 1},
		{x, y, back, -1}, {x, y, back, -0x1p-1070}, {x, y, back, math.Inf(1)}, {x, y, back, math.Inf(-1)}, {x, y, back, math.NaN()},
	}
	for _, bad := range []float64{math.NaN(), math.Inf(1), math.Inf(-1)} {
		for _, v := range []api.Vec{{X: bad}, {Y: bad}, {Z: bad}, {X: 1, Y: bad, Z: 2}} {
			l = append(l, call{v, y, back, 1}, call{x, v, back, 1}, call{x, y, v, 1})
		}
	}
	for _, c := range l {
		if v, ok := orbit.Gibbs(c.a, c.b, c.c, c.mu); ok || !sameVec(v, api.Vec{}) {
			t.Errorf("Gibbs of %v = %v, %v", c, v, ok)
		}
	}
}

// number: one at which operations turn, one of any size, or an ordinary one.
func number(dice *rand.Rand) float64 {
	odd := []float64{0, minusZero, 1, -1, 1e-100, 1e100, 0x1p-1074, -math.MaxFloat64, math.Inf(1), math.Inf(-1), math.NaN()}
	switch dice.Intn(12) {
	case 0:
		return odd[dice.Intn(len(odd))]
	case 1:
		return math.Ldexp(dice.Float64()-0.5, dice.Intn(400)-200)
	default:
		return dice.NormFloat64()
	}
}

// P63: Gibbs to the bit, of ordinary places and of odd ones.
func TestGibbs(t *testing.T) {
	dice := rand.New(rand.NewSource(66))
	found := 0
	for range 20000 {
		var l [3]api.Vec
		for i := range l {
			l[i] = api.Vec{X: number(dice), Y: number(dice), Z: number(dice)}
		}
		mu := number(dice)
		if dice.Intn(4) > 0 {
			mu = math.Abs(mu)
		}
		got, ok := orbit.Gibbs(l[0], l[1], l[2], mu)
		want, wantOK := toldGibbs(l[0], l[1], l[2], mu)
		if ok != wantOK || !sameVec(got, want) {
			t.Fatalf("Gibbs of %v, %v = %s, %v, want %s, %v", l, mu, textOf(got), ok, textOf(want), wantOK)
		}
		if ok {
			found++
		}
	}
	if found < 5000 || found > 19000 {
		t.Errorf("%d velocities", found)
	}
}

// P62, P63: the velocity of who came by three places of an orbit is how fast it goes
// along it.
func TestGibbsAlongOrbit(t *testing.T) {
	k := orbit.Elements{A: 3, E: 0.4, Tilt: 33 * degree, Node: -100 * degree, Peri: 77 * degree, Daily: degree}
	daily := float64(k.Daily) * api.Rad
	mu := k.A * k.A * k.A * daily * daily
	for day := 0; day < 360; day += 15 {
		at := day * api.DayLong
		const long = api.DayLong / 8
		l, err := k.Path([]int{at - 20*api.DayLong, at, at + 15*api.DayLong, at - long, at + long})
		if err != nil {
			t.Fatal(err)
		}
		v, ok := orbit.Gibbs(l[0], l[1], l[2], mu)
		if !ok {
			t.Fatal(day)
		}
		slope := func(a, b float64) float64 { return (b - a) * 4 }
		for _, d := range []float64{v.X - slope(l[3].X, l[4].X), v.Y - slope(l[3].Y, l[4].Y), v.Z - slope(l[3].Z, l[4].Z)} {
			if math.Abs(d) > 1e-5 {
				t.Errorf("day %d: %v is off by %v", day, v, d)
			}
		}
	}
}
