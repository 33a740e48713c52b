package tick

import "meridian/api"

func isInstant(t int) bool {
	return within(t, api.MaxTime)
}

// startOf a day: the instant at which it begins; the day is near enough that
// nothing overflows.
func startOf(l []api.Leap, day int) int {
	return day*api.DayLong + aheadOn(l, day)*api.Second
}

func isStamp(l []api.Leap, s api.Stamp) bool {
	return s.Micro >= 0 && s.Micro < api.DayLong+extraOn(l, s.Day)*api.Second
}

// instantOf a stamp, if it is one and has one.
func instantOf(l []api.Leap, s api.Stamp) (int, bool) {
	// Days beyond farDay lie beyond every instant; sums of them might overflow.
	if !within(s.Day, farDay) || !isStamp(l, s) {
		return 0, false
	}
	t := startOf(l, s.Day) + s.Micro
	if !isInstant(t) {
		return 0, false
	}
	return t, true
}

// stampAt an instant. TAI is ahead by far less than a day, so the guess is
// at most two days off.
func stampAt(l []api.Leap, t int) api.Stamp {
	day := t / api.DayLong
	for startOf(l, day) > t {
		day--
	}
	for startOf(l, day+1) <= t {
		day++
	}
	return api.Stamp{Day: day, Micro: t - startOf(l, day)}
}
