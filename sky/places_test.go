package sky_test

import (
	"math"
	"math/rand"
	"testing"

	"meridian/api"
	"meridian/arc"
	"meridian/sky"
)

// P50: Point, its bits written out.
func TestKnownPoint(t *testing.T) {
	for _, c := range []struct {
		lon, lat int
		want     string
	}{
		{123456789012, -98765432109, "3fe776c3f20c09a2 3fe0008c1197e845 bfdd7cc1e8b0e9b8"},
		{api.Turn - 1, api.Turn / 8, "3fe6a09e667f3bcc bd8e27822ad988a8 3fe6a09e667f3bcd"},
		{0, 0, "3ff0000000000000 0000000000000000 0000000000000000"},
		{api.Turn / 4, 0, "8000000000000000 3ff0000000000000 0000000000000000"},
		{api.Turn / 2, api.Turn/8 - 1, "bfe6a09e667fb46b 8000000000000000 3fe6a09e667ec32f"},
		{77, api.Turn / 4, "8000000000000000 8000000000000000 3ff0000000000000"},
		{5, -api.Turn / 4, "0000000000000000 0000000000000000 bff0000000000000"},
		{-1, 3*api.Turn + 7, "3ff0000000000000 bd9552844bf45540 3dc2a833c275ca98"},
		{math.MinInt, math.MaxInt, "3fe70585f4bc9e9f 3fdcc1033095612d 3fe0f340e8ee5f63"},
		{math.MaxInt, math.MinInt, "3fe70585f4bc9e9f bfdcc1033096b655 bfe0f340e8edceb4"},
		{300 * degree, 400 * degree, "3fd8836fa2cf5039 bfe53aafe363110a 3fe491b7523c161c"},
	} {
		p := sky.Place{Lon: c.lon, Lat: c.lat}
		needBits(t, "Point", sky.Point(p), c.want)
	}
}

// P50: Point to the bit, of all angles.
func TestPoint(t *testing.T) {
	dice := rand.New(rand.NewSource(50))
	for range 20000 {
		p := place(dice)
		if got, want := sky.Point(p), toldPoint(p); !sameVec(got, want) {
			t.Fatalf("Point(%v) = %s, want %s", p, textOf(got), textOf(want))
		}
	}
}

// P50: Where, of points whose places are written out.
func TestKnownWhere(t *testing.T) {
	for _, c := range []struct {
		v        api.Vec
		lon, lat int
	}{
		{api.Vec{X: 0.1, Y: -0.2, Z: 0.7}, 1067634184238, 260224299562},
		{api.Vec{X: 1, Y: 2, Z: 3}, 228365815762, 191882789278},
		{api.Vec{X: -1, Y: -2, Z: -3}, 876365815762, -191882789278},
		{api.Vec{X: -5}, api.Turn / 2, 0},
		{api.Vec{X: -5, Y: minusZero}, api.Turn / 2, 0},
		{api.Vec{Z: -0.1}, 0, -api.Turn / 4},
		{api.Vec{X: minusZero, Y: minusZero, Z: 7}, 0, api.Turn / 4},
		{api.Vec{X: 3, Y: 4}, 191268368474, 0},
		{api.Vec{X: 3, Y: -4, Z: minusZero}, 1104731631526, 0},
		{api.Vec{X: 1e-200, Y: 1e-200, Z: 1e-300}, 162000000000, api.Turn / 4},
		{api.Vec{X: 1e150, Y: -1e150, Z: 1e154}, 1134000000001, 323970829751},
		{api.Vec{X: 1, Z: 0x1p-1074}, 0, 0},
		{api.Vec{X: -1, Y: 0x1p-1074, Z: 1}, api.Turn / 2, 161999999999},
		{api.Vec{X: 1e-170, Z: -1e-170}, 0, -api.Turn / 4},
		{api.Vec{Y: -1e-3, Z: 1e300}, 972000000000, 323999999999},
		{api.Vec{X: 1, Y: -1e-300}, 0, 0},
		{api.Vec{X: 0x1p511, Y: 0x1p511, Z: -0x1p511}, 161999999999, -126951802857},
	} {
		want := sky.Place{Lon: c.lon, Lat: c.lat}
		if p, ok := sky.Where(c.v); !ok || p != want {
			t.Errorf("Where(%v) = %v, %v, want %v", c.v, p, ok, want)
		}
	}
}

// P50: Where, of ordinary points and of odd ones.
func TestWhere(t *testing.T) {
	dice := rand.New(rand.NewSource(51))
	for n := range 20000 {
		v := vector(dice, n%4 == 0)
		got, ok := sky.Where(v)
		if want, wantOK := toldWhere(v); got != want || ok != wantOK {
			t.Fatalf("Where(%s) = %v, %v, want %v, %v", textOf(v), got, ok, want, wantOK)
		}
		if got.Lon < 0 || got.Lon >= api.Turn || got.Lat < -api.Turn/4 || got.Lat > api.Turn/4 {
			t.Fatalf("Where(%s) = %v", textOf(v), got)
		}
	}
}

// P50: points that are nowhere.
func TestNowhere(t *testing.T) {
	no := []api.Vec{
		{}, {X: minusZero, Y: minusZero, Z: minusZero}, {Y: minusZero}, {X: 1e-200, Y: 1e-200}, {X: 0x1p-538}, {Y: 0x1p-1074},
		{X: 0x1p512}, {Y: -0x1p512, Z: 1}, {X: 0x1p511, Y: 0x1.cp511, Z: 3}, {X: math.Inf(1), Y: math.NaN(), Z: 1},
	}
	for _, x := range []float64{math.NaN(), math.Inf(1), math.Inf(-1)} {
		for _, y := range []float64{0, 1, -1e-200} {
			no = append(no, api.Vec{X: x, Y: y, Z: y}, api.Vec{X: y, Y: x, Z: y}, api.Vec{X: y, Y: y, Z: x}, api.Vec{X: x, Y: x, Z: y}, api.Vec{X: x, Y: y, Z: x}, api.Vec{X: x, Y: x, Z: x})
		}
	}
	for _, v := range no {
		if p, ok := sky.Where(v); ok || p != (sky.Place{}) {
			t.Errorf("Where(%v) = %v, %v, want none", v, p, ok)
		}
	}
}

// P50: a place's Point is where the place is, but for rounding.
func TestThereAgain(t *testing.T) {
	dice := rand.New(rand.NewSource(52))
	for range 5000 {
		p := sky.Place{Lon: dice.Intn(api.Turn), Lat: dice.Intn(160*degree) - 80*degree}
		q, ok := sky.Where(sky.Point(p))
		if !ok || arc.Apart(p.Lon, q.Lon) > 8 || arc.Apart(p.Lat, q.Lat) > 8 {
			t.Fatalf("Where(Point(%v)) = %v, %v", p, q, ok)
		}
	}
}
