package tick

import "meridian/api"

const (
	julianHalves = 4903089                  // half days of the Julian date at 2000-01-01T00:00:00
	terrestrial  = 32*api.Second + 184*1000 // microseconds that TT is ahead of TAI
)

// divisor: the greatest common one of a number and one above 0; it is above 0.
func divisor(a, b int) int {
	for a != 0 {
		a, b = b%a, a
	}
	return max(b, -b)
}
