package arc

import (
	"meridian/api"
	"meridian/digits"
)

// whole: microseconds of an hour, and micro-arcseconds of a degree as well.
const whole = 3600 * api.Second

// perTime: micro-arcseconds of a microsecond of time.
const perTime = 15

// sixtieths: minutes and seconds of what is left behind the whole ones.
func sixtieths(n int, minute, second string) string {
	seconds := n / api.Second
	return digits.Of(seconds/60, 2) + minute + digits.Of(seconds%60, 2) + "." + digits.Of(n%api.Second, 6) + second
}
