package tick_test

import (
	"math"
	"testing"
	"time"

	"meridian/api"
	"meridian/tick"
)

const (
	firstDay = -730119 // 0001-01-01
	lastDay  = 2921939 // 9999-12-31
)

// P10: each day of the years 1 to 9999, held against the library's calendar.
func TestEveryDayHasItsDate(t *testing.T) {
	at := time.Date(1, 1, 1, 0, 0, 0, 0, time.UTC)
	for day := firstDay; day <= lastDay; day++ {
		y, m, d := tick.Date(day)
		wantY, wantM, wantD := at.Date()
		if y != wantY || m != int(wantM) || d != wantD {
			t.Fatalf("Date(%d) = %d, %d, %d, want %v", day, y, m, d, at)
		}
		if got, err := tick.DayOf(y, m, d); err != nil || got != day {
			t.Fatalf("DayOf(%d, %d, %d) = %d, %v, want %d", y, m, d, got, err, day)
		}
		at = at.AddDate(0, 0, 1)
	}
}

// P10: the days that the document names.
func TestNamedDays(t *testing.T) {
	for _, c := range [][4]int{{2000, 1, 1, 0}, {2000, 1, 2, 1}, {1999, 12, 31, -1}, {2000, 2, 29, 59}, {1, 1, 1, firstDay}, {9999, 12, 31, lastDay}} {
		if got, err := tick.DayOf(c[0], c[1], c[2]); err != nil || got != c[3] {
			t.Errorf("DayOf%v = %d, %v", c, got, err)
		}
	}
}

// P10: dates that there are not.
func TestNoSuchDate(t *testing.T) {
	for _, c := range [][3]int{
		{0, 12, 31}, {10000, 1, 1}, {-4, 2, 29}, {math.MinInt, 1, 1}, {math.MaxInt, 1, 1},
		{2000, 0, 1}, {2000, 13, 1}, {2000, -1, 1}, {2000, math.MinInt, 1}, {2000, math.MaxInt, 1},
		{2000, 1, 0}, {2000, 1, 32}, {2000, 4, 31}, {2000, 6, 31}, {2000, 9, 31}, {2000, 11, 31}, {2000, 12, 32},
		{2000, 2, 30}, {2001, 2, 29}, {1900, 2, 29}, {2100, 2, 29}, {2000, 1, math.MinInt}, {2000, 1, math.MaxInt},
	} {
		if got, err := tick.DayOf(c[0], c[1], c[2]); got != 0 || err != api.ErrTime {
			t.Errorf("DayOf%v = %d, %v, want ErrTime", c, got, err)
		}
	}
}

// P10: days whose year is not from 1 to 9999.
func TestNoDate(t *testing.T) {
	for _, day := range []int{firstDay - 1, lastDay + 1, math.MinInt, math.MinInt + 1, math.MaxInt, math.MaxInt - 1} {
		if y, m, d := tick.Date(day); y != 0 || m != 0 || d != 0 {
			t.Errorf("Date(%d) = %d, %d, %d", day, y, m, d)
		}
	}
}
