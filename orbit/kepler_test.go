package orbit_test

import (
	"math"
	"math/rand"
	"testing"

	"meridian/api"
	"meridian/arc"
	"meridian/orbit"
)

// P60: eccentric anomalies, written out.
func TestKnownKepler(t *testing.T) {
	for _, c := range []struct {
		m    int
		e    float64
		want int
	}{
		{0, 0.5, 0}, {1, 0.5, 2}, {-1, 0.5, 1295999999998}, {api.Turn / 2, 0.5, api.Turn / 2}, {api.Turn / 4, 0.1, 344524450229},
		{api.Turn - 1, 0.9, 1295999999990}, {123456789012, 0.0167, 125424665009}, {123456789012, 0.2056, 151947303807},
		{987654321098, 0.967, 832250934102}, {api.Turn / 4, 0.999999, 476447160713}, {1, 0x1p-1074, 1},
		{api.Turn/2 - 1, 0.7, 647999999999}, {api.Turn/2 + 1, 0.7, 648000000000},
		{0, 1 - 0x1p-53, 0}, {1, 1 - 0x1p-53, 63435714}, {1000, 1 - 0x1p-53, 634357249}, {-1, 1 - 0x1p-53, 1295936567675},
	} {
		if got, err := orbit.Kepler(c.m, c.e); err != nil || got != c.want {
			t.Errorf("Kepler(%d, %v) = %d, %v, want %d", c.m, c.e, got, err, c.want)
		}
	}
}

// P60: some that would be others, if F's operations came in another order, or two of
// them were rounded together.
func TestKeplerRounding(t *testing.T) {
	for _, c := range []struct {
		m    int
		e    float64
		want int
	}{
		{74, 0.9, 740}, {10, 0.99, 1000}, {319, 0.5, 638}, {1292, 0.5, 2584}, {3, 0.99, 299}, {76, 1 - 0x1p-53, 268702504},
	} {
		if got, err := orbit.Kepler(c.m, c.e); err != nil || got != c.want {
			t.Errorf("Kepler(%d, %v) = %d, %v, want %d", c.m, c.e, got, err, c.want)
		}
	}
}

// P60: a mean anomaly of any size is Normed.
func TestKeplerNorm(t *testing.T) {
	for _, c := range []struct {
		m    int
		e    float64
		want int
	}{
		{math.MaxInt, 0.3, 558790920907}, {math.MinInt, 0.3, 737209079092}, {api.MaxAngle, 0.3, 1163545798659},
		{-api.MaxAngle, 0.3, 132454201340}, {5*api.Turn + 77, 0.25, 102}, {-5*api.Turn - 77, 0.25, 1295999999897},
		{api.Turn, 0.5, 0}, {-api.Turn, 0.5, 0}, {api.Turn, 0, 0}, {-1, 0, api.Turn - 1},
	} {
		if got, err := orbit.Kepler(c.m, c.e); err != nil || got != c.want {
			t.Errorf("Kepler(%d, %v) = %d, %v, want %d", c.m, c.e, got, err, c.want)
		}
	}
}

// P60: in a circle, both anomalies are one; -0 is from 0 on.
func TestKeplerCircle(t *testing.T) {
	dice := rand.New(rand.NewSource(60))
	for range 5000 {
		m := dice.Intn(api.Turn)
		for _, e := range []float64{0, minusZero} {
			if got, err := orbit.Kepler(m, e); err != nil || got != m {
				t.Fatalf("Kepler(%d, %v) = %d, %v", m, e, got, err)
			}
		}
	}
}

// P60: the search, step by step, of anomalies and eccentricities of all sizes.
func TestKeplerSteps(t *testing.T) {
	dice := rand.New(rand.NewSource(61))
	for range 20000 {
		m, e := int(dice.Uint64())>>dice.Intn(64), eccentricity(dice)
		got, err := orbit.Kepler(m, e)
		if want := toldKepler(m, e); err != nil || got != want {
			t.Fatalf("Kepler(%d, %x) = %d, %v, want %d", m, e, got, err, want)
		}
		if got < 0 || got >= api.Turn {
			t.Fatalf("Kepler(%d, %x) = %d", m, e, got)
		}
	}
}

// P60: it solves the equation, but for a unit and rounding.
func TestKeplerSolves(t *testing.T) {
	dice := rand.New(rand.NewSource(62))
	for range 5000 {
		m, e := dice.Intn(api.Turn), dice.Float64()
		got, err := orbit.Kepler(m, e)
		x := float64(got) * api.Rad
		off := x - e*math.Sin(x) - float64(m)*api.Rad
		if err != nil || off > 1e-14 || off < -2*api.Rad-1e-14 {
			t.Fatalf("Kepler(%d, %v) = %d, %v: off by %v", m, e, got, err, off)
		}
		if arc.Signed(m) > 0 && got < m-1 {
			t.Fatalf("Kepler(%d, %v) = %d is behind", m, e, got)
		}
	}
}

// P60: what is no eccentricity.
func TestNoKepler(t *testing.T) {
	for _, e := range noEccentricities {
		for _, m := range []int{0, 5, -5, api.Turn, math.MaxInt, math.MinInt} {
			if got, err := orbit.Kepler(m, e); err != api.ErrShape || got != 0 {
				t.Errorf("Kepler(%d, %v) = %d, %v", m, e, got, err)
			}
		}
	}
}
