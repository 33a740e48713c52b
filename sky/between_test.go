package sky_test

import (
	"math"
	"math/rand"
	"testing"

	"meridian/api"
	"meridian/arc"
	"meridian/sky"
)

// P53: Between, of places of which it is written out.
func TestKnownBetween(t *testing.T) {
	for _, c := range []struct {
		a, b sky.Place
		want int
	}{
		{sky.Place{}, sky.Place{Lon: 1}, 1},
		{sky.Place{}, sky.Place{Lat: 1}, 1},
		{sky.Place{}, sky.Place{Lon: api.Turn / 4}, api.Turn / 4},
		{sky.Place{}, sky.Place{Lon: api.Turn / 2}, api.Turn / 2},
		{sky.Place{Lat: 90 * degree}, sky.Place{Lat: -90 * degree}, api.Turn / 2},
		{sky.Place{Lon: 77, Lat: 90 * degree}, sky.Place{Lon: -1000, Lat: 90 * degree}, 0},
		{sky.Place{Lon: 123456789012, Lat: -98765432109}, sky.Place{Lon: -5, Lat: 170000000000}, 290894811251},
		{sky.Place{Lon: 10 * degree, Lat: 20 * degree}, sky.Place{Lon: 10 * degree, Lat: 20 * degree}, 0},
		{sky.Place{Lon: 10 * degree, Lat: 20 * degree}, sky.Place{Lon: 190 * degree, Lat: -20 * degree}, api.Turn / 2},
		{sky.Place{Lon: 10 * degree, Lat: 20 * degree}, sky.Place{Lon: 190*degree + 1000, Lat: -20 * degree}, 647999999061},
		{sky.Place{Lon: 1, Lat: 2}, sky.Place{Lon: 3, Lat: 4}, 2},
		{sky.Place{Lon: 33 * degree, Lat: 89 * degree}, sky.Place{Lon: 213 * degree, Lat: 88 * degree}, 3 * degree},
		{sky.Place{Lon: math.MinInt, Lat: math.MaxInt}, sky.Place{Lon: math.MaxInt, Lat: math.MinInt}, 316749859393},
	} {
		if got := sky.Between(c.a, c.b); got != c.want {
			t.Errorf("Between(%v, %v) = %d, want %d", c.a, c.b, got, c.want)
		}
		if got := sky.Between(c.b, c.a); got != c.want {
			t.Errorf("Between(%v, %v) = %d, want %d", c.b, c.a, got, c.want)
		}
	}
}

// near: a place that is not far from another one.
func near(dice *rand.Rand, p sky.Place) sky.Place {
	p.Lon = arc.Norm(p.Lon) + dice.Intn(1<<dice.Intn(30)) - 1000
	p.Lat = arc.Norm(p.Lat) + dice.Intn(1<<dice.Intn(30)) - 1000
	return p
}

// P53: Between to the last unit, of places anywhere, and of near ones.
func TestBetween(t *testing.T) {
	dice := rand.New(rand.NewSource(57))
	for n := range 10000 {
		a, b := place(dice), place(dice)
		if n%2 == 0 {
			b = near(dice, a)
		}
		got := sky.Between(a, b)
		if want := toldBetween(a, b); got != want {
			t.Fatalf("Between(%v, %v) = %d, want %d", a, b, got, want)
		}
		if got < 0 || got > api.Turn/2 {
			t.Fatalf("Between(%v, %v) = %d", a, b, got)
		}
	}
}
