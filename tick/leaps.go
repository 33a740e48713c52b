package tick

import "meridian/api"

const (
	farDay     = 4000000 // a row's day, in size
	farAhead   = 1000    // a row's seconds, in size
	firstKnown = 10      // seconds that TAI was ahead in 1972
)

type monthOf struct{ year, month int }

// knownMonths: those on whose first day the known table has a row; from row
// to row TAI is one second more ahead.
func knownMonths() []monthOf {
	return []monthOf{
		{1972, 1}, {1972, 7}, {1973, 1}, {1974, 1}, {1975, 1}, {1976, 1}, {1977, 1},
		{1978, 1}, {1979, 1}, {1980, 1}, {1981, 7}, {1982, 7}, {1983, 7}, {1985, 7},
		{1988, 1}, {1990, 1}, {1991, 1}, {1992, 7}, {1993, 7}, {1994, 7}, {1996, 1},
		{1997, 7}, {1999, 1}, {2006, 1}, {2009, 1}, {2012, 7}, {2015, 7}, {2017, 1},
	}
}

// within tells whether a number is at most so much in size; it never negates
// the number, for the least one has no opposite.
func within(n, size int) bool {
	return n >= -size && n <= size
}

// follows tells whether a row may stand behind another one, both being within
// their sizes.
func follows(before, row api.Leap) bool {
	step := row.Ahead - before.Ahead
	return row.Day-before.Day >= 2 && (step == 1 || step == -1)
}

// aheadOn: how many seconds TAI is ahead of UTC on a day, by a valid table.
func aheadOn(l []api.Leap, day int) int {
	if len(l) == 0 {
		return 0
	}
	ahead := l[0].Ahead
	for _, row := range l {
		if row.Day > day {
			break
		}
		ahead = row.Ahead
	}
	return ahead
}

// extraOn: how many seconds a day is longer than others: 1, 0 or -1.
func extraOn(l []api.Leap, day int) int {
	return aheadOn(l, day+1) - aheadOn(l, day)
}
