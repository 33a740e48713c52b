// Package tick: time: see ../shared/doc/01-tick.md.
package tick

import "meridian/api"

// DayOf a date.
func DayOf(year, month, date int) (int, error) {
	if !isDate(year, month, date) {
		return 0, api.ErrTime
	}
	return dayOf(year, month, date), nil
}

// Date of a day.
func Date(day int) (year, month, date int) {
	if !hasYear(day) {
		return 0, 0, 0
	}
	return dateOf(day)
}

// Valid table?
func Valid(l []api.Leap) error {
	if len(l) > api.MaxLeaps {
		return api.ErrBound
	}
	for i, row := range l {
		if !within(row.Day, farDay) || !within(row.Ahead, farAhead) {
			return api.ErrTable
		}
		if i > 0 && !follows(l[i-1], row) {
			return api.ErrTable
		}
	}
	return nil
}

// Known leap seconds.
func Known() []api.Leap {
	months := knownMonths()
	l := make([]api.Leap, len(months))
	for i, m := range months {
		l[i] = api.Leap{Day: dayOf(m.year, m.month, 1), Ahead: firstKnown + i}
	}
	return l
}

// Instant of a stamp.
func Instant(l []api.Leap, s api.Stamp) (int, error) {
	if err := Valid(l); err != nil {
		return 0, err
	}
	t, ok := instantOf(l, s)
	if !ok {
		return 0, api.ErrTime
	}
	return t, nil
}

// Stamped: the stamp of an instant.
func Stamped(l []api.Leap, t int) (api.Stamp, error) {
	if err := Valid(l); err != nil {
		return api.Stamp{}, err
	}
	if !isInstant(t) {
		return api.Stamp{}, api.ErrTime
	}
	return stampAt(l, t), nil
}

// Text of a stamp.
func Text(l []api.Leap, s api.Stamp) (string, error) {
	if _, err := Instant(l, s); err != nil {
		return "", err
	}
	if !hasYear(s.Day) {
		return "", api.ErrTime
	}
	return textOf(s), nil
}

// Read a stamp.
func Read(l []api.Leap, text string) (api.Stamp, error) {
	if err := Valid(l); err != nil {
		return api.Stamp{}, err
	}
	if at, wrong := firstWrong(text); wrong {
		return api.Stamp{}, &api.Fault{At: at, Err: api.ErrText}
	}
	s, ok := stampIn(l, text)
	if !ok {
		return api.Stamp{}, &api.Fault{At: 0, Err: api.ErrTime}
	}
	return s, nil
}

// Julian date in TT.
func Julian(t int) (num, den int, err error) {
	if !isInstant(t) {
		return 0, 0, api.ErrTime
	}
	num = julianHalves*(api.DayLong/2) + t + terrestrial
	common := divisor(num, api.DayLong)
	return num / common, api.DayLong / common, nil
}
