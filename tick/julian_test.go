package tick_test

import (
	"math"
	"math/big"
	"testing"

	"meridian/api"
	"meridian/tick"
)

const terrestrial = 32184000 // microseconds that TT is ahead of TAI

// P14: Julian dates, also of 0 and below it.
func TestJulian(t *testing.T) {
	const zero = -terrestrial - 4903089*(api.DayLong/2) // TT's Julian date is 0 here
	for _, c := range [][3]int{
		{-terrestrial, 4903089, 2},
		{-terrestrial + api.DayLong/2, 2451545, 1},
		{-terrestrial - api.DayLong/2, 2451544, 1},
		{-terrestrial + 1, 211813444800000001, 86400000000},
		{0, 2451544*400000 + 200000 + 149, 400000},
		{zero, 0, 1},
		{zero + 1, 1, 86400000000},
		{zero - 1, -1, 86400000000},
		{zero - api.DayLong/2, -1, 2},
		{zero - 3*api.DayLong, -3, 1},
	} {
		if num, den, err := tick.Julian(c[0]); err != nil || num != c[1] || den != c[2] {
			t.Errorf("Julian(%d) = %d/%d, %v, want %d/%d", c[0], num, den, err, c[1], c[2])
		}
	}
}

// P14: instants of all sizes, held against the library's fractions.
func TestJulianLowest(t *testing.T) {
	for n := -api.MaxTime; n <= api.MaxTime; n += api.MaxTime/2000 + 864*17 {
		want := new(big.Rat).SetFrac64(int64(n)+terrestrial, api.DayLong)
		want.Add(want, big.NewRat(4903089, 2))
		num, den, err := tick.Julian(n)
		if err != nil || !want.Num().IsInt64() || int64(num) != want.Num().Int64() || int64(den) != want.Denom().Int64() {
			t.Fatalf("Julian(%d) = %d/%d, %v, want %v", n, num, den, err, want)
		}
	}
}

// P14: the edges, and what is no instant.
func TestJulianEdges(t *testing.T) {
	for _, n := range []int{api.MaxTime, -api.MaxTime} {
		if _, den, err := tick.Julian(n); err != nil || den <= 0 {
			t.Errorf("Julian(%d): %d, %v", n, den, err)
		}
	}
	for _, n := range []int{api.MaxTime + 1, -api.MaxTime - 1, math.MinInt, math.MaxInt} {
		if num, den, err := tick.Julian(n); num != 0 || den != 0 || err != api.ErrTime {
			t.Errorf("Julian(%d) = %d/%d, %v, want ErrTime", n, num, den, err)
		}
	}
}
