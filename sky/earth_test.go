package sky_test

import (
	"math"
	"math/rand"
	"testing"

	"meridian/api"
	"meridian/arc"
	"meridian/sky"
)

// noInstants: numbers that are no instants.
var noInstants = []int{api.MaxTime + 1, -api.MaxTime - 1, math.MaxInt, math.MinInt}

// P51: Era, at instants at which it is written out.
func TestKnownEra(t *testing.T) {
	for _, c := range [][2]int{
		{0, 1009658226150}, {1, 1009658226165}, {-1, 1009658226135}, {api.DayLong, 1013206430387}, {-api.DayLong, 1006110021913},
		{365*api.DayLong + 1, 1008752772712}, {123456789012345678, 1106855844973}, {-123456789012345678, 912460607326},
		{api.MaxTime, 379259321310}, {-api.MaxTime, 344057130990}, {api.MaxTime - 1, 379259321295}, {1 - api.MaxTime, 344057131005},
		{api.Turn, 1062881289706}, {1e16, 513444929322}, {-1e16, 209871522978}, {25e14, 237604901943}, {-25e14, 485711550357},
	} {
		if got, err := sky.Era(c[0]); err != nil || got != c[1] {
			t.Errorf("Era(%d) = %d, %v, want %d", c[0], got, err, c[1])
		}
	}
}

// P51: Era, at instants at which the exact number is whole, or as little below or
// above a whole one as it can be.
func TestEraAtWholeNumbers(t *testing.T) {
	for _, c := range [][2]int{
		{980000000000000, 551493323061}, {-1520000000000000, 27546647268}, {125980000000000000, 828827112711}, {-249020000000000000, 1292825743761},
		{1663752147371343, 1153475495517}, {-836247852628657, 629528819724}, {126663752147371343, 134809285167}, {-248336247852628657, 598807916217},
		{296247852628657, 1245511150604}, {-2203752147371343, 721564474811}, {125296247852628657, 226844940254}, {-249703752147371343, 690843571304},
	} {
		if got, err := sky.Era(c[0]); err != nil || got != c[1] {
			t.Errorf("Era(%d) = %d, %v, want %d", c[0], got, err, c[1])
		}
	}
}

// P51: Era is the exact number, rounded down.
func TestEra(t *testing.T) {
	dice := rand.New(rand.NewSource(53))
	for range 20000 {
		n := int(dice.Uint64()) >> dice.Intn(64) % (api.MaxTime + 1)
		if got, err := sky.Era(n); err != nil || got != toldEra(t, n) {
			t.Fatalf("Era(%d) = %d, %v, want %d", n, got, err, toldEra(t, n))
		}
	}
	for n := -1000; n <= 1000; n++ {
		if got, err := sky.Era(n); err != nil || got != toldEra(t, n) {
			t.Fatalf("Era(%d) = %d, %v, want %d", n, got, err, toldEra(t, n))
		}
	}
}

// P51: what is no instant.
func TestNoEra(t *testing.T) {
	for _, n := range noInstants {
		if got, err := sky.Era(n); err != api.ErrTime || got != 0 {
			t.Errorf("Era(%d) = %d, %v", n, got, err)
		}
		for _, lon := range []int{0, 77, math.MinInt} {
			if got, err := sky.Sidereal(n, lon); err != api.ErrTime || got != 0 {
				t.Errorf("Sidereal(%d, %d) = %d, %v", n, lon, got, err)
			}
		}
	}
}

// P51: Sidereal is Era, farther to the east by the longitude.
func TestSidereal(t *testing.T) {
	for _, c := range []struct{ t, lon, want int }{
		{0, 0, 1009658226150}, {0, 10 * degree, 1045658226150}, {0, -1009658226150, 0}, {0, -1009658226151, api.Turn - 1},
		{0, api.Turn - 1009658226150, 0}, {0, api.Turn - 1009658226151, api.Turn - 1}, {-1, 5 * api.Turn, 1009658226135},
		{api.MaxTime, -api.MaxAngle, arc.Norm(379259321310 - api.MaxAngle)}, {-api.MaxTime, api.MaxAngle, arc.Norm(344057130990 + api.MaxAngle)},
		{0, math.MaxInt, arc.Norm(1009658226150 - api.Turn + math.MaxInt)}, {0, math.MinInt, arc.Norm(1009658226150 + math.MinInt)},
	} {
		if got, err := sky.Sidereal(c.t, c.lon); err != nil || got != c.want {
			t.Errorf("Sidereal(%d, %d) = %d, %v, want %d", c.t, c.lon, got, err, c.want)
		}
	}
	dice := rand.New(rand.NewSource(54))
	for range 5000 {
		n, lon := dice.Intn(api.MaxTime)-dice.Intn(api.MaxTime), dice.Intn(api.MaxAngle)-dice.Intn(api.MaxAngle)
		if got, err := sky.Sidereal(n, lon); err != nil || got != arc.Norm(toldEra(t, n)+lon) {
			t.Fatalf("Sidereal(%d, %d) = %d, %v", n, lon, got, err)
		}
	}
}
