package sky_test

import (
	"math"
	"math/rand"
	"testing"

	"meridian/api"
	"meridian/arc"
	"meridian/sky"
)

// P52: Above, of angles of which it is written out.
func TestKnownAbove(t *testing.T) {
	for _, c := range []struct{ hour, dec, lat, alt, az int }{
		{123456789012, -98765432109, 170000000000, 33105188750, 757570044019},
		{0, 0, 0, api.Turn / 4, 0},
		{0, 90 * degree, 0, 0, 0},
		{0, 0, 90 * degree, 0, api.Turn / 2},
		{5, 6, 7, 323999999994, 931284243093},
		{-1, -1, -1, 323999999999, 324000000000},
		{90 * degree, 0, 0, 0, 972000000000},
		{180 * degree, 45 * degree, -45 * degree, -323999999999, 0},
		{15 * degree, 89 * degree, 52 * degree, 190674567648, 1294453081344},
		{345 * degree, -30 * degree, -33 * degree, 276753762335, 290915184761},
		{0, -90 * degree, -90 * degree, api.Turn / 4, 0},
		{77, 90 * degree, 90 * degree, api.Turn / 4, 0},
		{200 * degree, 100 * degree, -100 * degree, -311558824279, 936536125980},
		{math.MinInt, math.MaxInt, math.MinInt, -226698647527, 940923973530},
		{math.MaxInt, math.MinInt, math.MaxInt, -226698647526, 292923973534},
	} {
		if alt, az := sky.Above(c.hour, c.dec, c.lat); alt != c.alt || az != c.az {
			t.Errorf("Above(%d, %d, %d) = %d, %d, want %d, %d", c.hour, c.dec, c.lat, alt, az, c.alt, c.az)
		}
	}
}

// P52: Above to the last unit, of all angles.
func TestAbove(t *testing.T) {
	dice := rand.New(rand.NewSource(55))
	for range 10000 {
		hour, dec, lat := angle(dice), angle(dice), angle(dice)
		alt, az := sky.Above(hour, dec, lat)
		if wantAlt, wantAz := toldAbove(hour, dec, lat); alt != wantAlt || az != wantAz {
			t.Fatalf("Above(%d, %d, %d) = %d, %d, want %d, %d", hour, dec, lat, alt, az, wantAlt, wantAz)
		}
	}
}

// P52: the south stands at half a turn, the west at three quarters; the pole stands
// as high as the latitude.
func TestWaysOfTheSky(t *testing.T) {
	for lat := -89; lat < 90; lat++ {
		alt, az := sky.Above(90*degree, 0, lat*degree)
		if arc.Apart(alt, 0) > 3 || arc.Apart(az, 270*degree) > 3 {
			t.Errorf("west, at %d: %d, %d", lat, alt, az)
		}
		if alt, _ := sky.Above(lat*degree, 90*degree, lat*degree); arc.Apart(alt, lat*degree) > 3 {
			t.Errorf("the pole, at %d: %d", lat, alt)
		}
		if lat > 0 {
			alt, az := sky.Above(0, 0, lat*degree)
			if arc.Apart(alt, (90-lat)*degree) > 3 || arc.Apart(az, 180*degree) > 3 {
				t.Errorf("south, at %d: %d, %d", lat, alt, az)
			}
		}
	}
}

// P52: Seen, of stars whose heights are written out.
func TestKnownSeen(t *testing.T) {
	for _, c := range []struct {
		t        int
		at, star sky.Place
		alt, az  int
	}{
		{0, sky.Place{}, sky.Place{}, 37658226150, 324000000000},
		{1e17, sky.Place{Lon: 10 * degree, Lat: 40 * degree}, sky.Place{Lon: 100 * degree, Lat: -20 * degree}, -94252272567, 341548186127},
		{-api.MaxTime, sky.Place{Lon: math.MinInt, Lat: 50 * degree}, sky.Place{Lon: math.MaxInt, Lat: -80 * degree}, -213130017851, 672509826668},
		{api.MaxTime, sky.Place{Lon: -70 * degree, Lat: -33 * degree}, sky.Place{Lon: 350 * degree, Lat: -5 * degree}, 141811446701, 1056613448754},
		{7e16, sky.Place{Lon: 359 * degree, Lat: 1}, sky.Place{Lon: 1, Lat: -1}, 199434851647, 971999999996},
		{-1, sky.Place{Lon: math.MaxInt, Lat: math.MinInt}, sky.Place{Lon: math.MinInt, Lat: math.MaxInt}, -213118718988, 936341367023},
	} {
		if alt, az, err := sky.Seen(c.t, c.at, c.star); err != nil || alt != c.alt || az != c.az {
			t.Errorf("Seen(%d, %v, %v) = %d, %d, %v, want %d, %d", c.t, c.at, c.star, alt, az, err, c.alt, c.az)
		}
	}
}

// P52: Seen is Above at the hour angle.
func TestSeen(t *testing.T) {
	dice := rand.New(rand.NewSource(56))
	for range 5000 {
		n, at, star := dice.Intn(api.MaxTime)-dice.Intn(api.MaxTime), place(dice), place(dice)
		hour := arc.Norm(toldEra(t, n) + arc.Norm(at.Lon) - arc.Norm(star.Lon))
		wantAlt, wantAz := toldAbove(hour, star.Lat, at.Lat)
		if alt, az, err := sky.Seen(n, at, star); err != nil || alt != wantAlt || az != wantAz {
			t.Fatalf("Seen(%d, %v, %v) = %d, %d, %v, want %d, %d", n, at, star, alt, az, err, wantAlt, wantAz)
		}
	}
}

// P52: what is no instant.
func TestNotSeen(t *testing.T) {
	for _, n := range noInstants {
		if alt, az, err := sky.Seen(n, sky.Place{Lon: 5, Lat: 6}, sky.Place{Lon: 7, Lat: 8}); err != api.ErrTime || alt != 0 || az != 0 {
			t.Errorf("Seen(%d) = %d, %d, %v", n, alt, az, err)
		}
	}
}
