package tick_test

import (
	"errors"
	"math"
	"strings"
	"testing"

	"meridian/api"
	"meridian/tick"
)

// P13: texts and their stamps, there and back.
func TestTexts(t *testing.T) {
	for _, c := range []struct {
		l    []api.Leap
		s    api.Stamp
		text string
	}{
		{nil, api.Stamp{}, "2000-01-01T00:00:00.000000Z"},
		{nil, api.Stamp{Day: firstDay}, "0001-01-01T00:00:00.000000Z"},
		{nil, api.Stamp{Day: lastDay, Micro: api.DayLong - 1}, "9999-12-31T23:59:59.999999Z"},
		{nil, api.Stamp{Micro: 1}, "2000-01-01T00:00:00.000001Z"},
		{nil, api.Stamp{Micro: 59*api.Second + 120000}, "2000-01-01T00:00:59.120000Z"},
		{nil, api.Stamp{Micro: 60 * api.Second}, "2000-01-01T00:01:00.000000Z"},
		{nil, api.Stamp{Micro: 3599 * api.Second}, "2000-01-01T00:59:59.000000Z"},
		{nil, api.Stamp{Micro: 3600 * api.Second}, "2000-01-01T01:00:00.000000Z"},
		{nil, api.Stamp{Day: 59, Micro: 45296*api.Second + 789}, "2000-02-29T12:34:56.000789Z"},
		{tick.Known(), api.Stamp{Day: 6209, Micro: api.DayLong - 1}, "2016-12-31T23:59:59.999999Z"},
		{tick.Known(), api.Stamp{Day: 6209, Micro: api.DayLong}, "2016-12-31T23:59:60.000000Z"},
		{tick.Known(), api.Stamp{Day: 6209, Micro: api.DayLong + 500000}, "2016-12-31T23:59:60.500000Z"},
		{tick.Known(), api.Stamp{Day: 6209, Micro: api.DayLong + 999999}, "2016-12-31T23:59:60.999999Z"},
		{tick.Known(), api.Stamp{Day: 6210}, "2017-01-01T00:00:00.000000Z"},
		{upAndDown(), api.Stamp{Day: 8, Micro: api.DayLong - api.Second - 1}, "2000-01-09T23:59:58.999999Z"},
		{upAndDown(), api.Stamp{Day: 8, Micro: 59 * api.Second}, "2000-01-09T00:00:59.000000Z"},
		{[]api.Leap{{Day: lastDay}, {Day: lastDay + 2, Ahead: 1}}, api.Stamp{Day: lastDay}, "9999-12-31T00:00:00.000000Z"},
		{[]api.Leap{{Day: 0}, {Day: lastDay + 1, Ahead: 1}}, api.Stamp{Day: lastDay, Micro: api.DayLong}, "9999-12-31T23:59:60.000000Z"},
	} {
		if text, err := tick.Text(c.l, c.s); err != nil || text != c.text {
			t.Errorf("Text(%v) = %q, %v, want %q", c.s, text, err, c.text)
		}
		if s, err := tick.Read(c.l, c.text); err != nil || s != c.s {
			t.Errorf("Read(%q) = %v, %v, want %v", c.text, s, err, c.s)
		}
	}
}

// P13: stamps that have no text.
func TestNoText(t *testing.T) {
	for _, s := range []api.Stamp{
		{Micro: -1}, {Micro: api.DayLong}, {Day: 4, Micro: api.DayLong + api.Second}, {Day: 8, Micro: api.DayLong - api.Second},
		{Day: firstDay - 1}, {Day: firstDay - 1, Micro: api.DayLong - 1}, {Day: lastDay + 1}, {Day: 3000000},
		{Day: 4000000}, {Day: math.MinInt}, {Day: math.MaxInt}, {Micro: math.MaxInt},
	} {
		if text, err := tick.Text(upAndDown(), s); text != "" || err != api.ErrTime {
			t.Errorf("Text(%v) = %q, %v, want ErrTime", s, text, err)
		}
	}
}

// readFails: Read answers the zero stamp and a Fault with that place and error.
func readFails(t *testing.T, l []api.Leap, text string, at int, want error) {
	t.Helper()
	s, err := tick.Read(l, text)
	var f *api.Fault
	if s != (api.Stamp{}) || !errors.As(err, &f) || f.At != at || f.Err != want {
		t.Errorf("Read(%q) = %v, %+v, want %v at %d", text, s, err, want, at)
	}
}

// P13: a text that ends too early, at each length, and one that goes on.
func TestTextOfWrongLength(t *testing.T) {
	whole := "2016-12-31T23:59:60.500000Z"
	for n := range whole {
		readFails(t, tick.Known(), whole[:n], n, api.ErrText)
	}
	for _, more := range []string{" ", "Z", "0", "\x00", "é", strings.Repeat("Z", 2*api.MaxText)} {
		readFails(t, tick.Known(), whole+more, len(whole), api.ErrText)
	}
}

// P13: a byte that cannot stand there, at each place.
func TestTextOfWrongBytes(t *testing.T) {
	whole := "2016-12-31T23:59:60.500000Z"
	for i := range len(whole) {
		for b := range 256 {
			digit := whole[i] >= '0' && whole[i] <= '9'
			if byte(b) == whole[i] || digit && b >= '0' && b <= '9' {
				continue
			}
			readFails(t, tick.Known(), whole[:i]+string([]byte{byte(b)})+whole[i+1:], i, api.ErrText)
		}
	}
}

// P13: the form counts ahead of the time, and its first wrong byte is told.
func TestFormFirst(t *testing.T) {
	for text, at := range map[string]int{
		"2016-99-99T99:99:99.999999z": 26, "0000-00-00": 10, "2016-1x-3x": 6, "-016-12-31T23:59:60.500000Z": 0,
		"+016-12-31T23:59:60.500000Z": 0, "٢016-12-31T23:59:60.500000Z": 0, "2016-12-31T23:59:60,500000Z": 19,
		"2016-12-31t23:59:60.500000Z": 10, " 2016-12-31T23:59:60.500000Z": 0, "12016-12-31T23:59:59.500000Z": 4,
	} {
		readFails(t, tick.Known(), text, at, api.ErrText)
	}
}

// P13: texts of the right form that tell no time.
func TestNoSuchTime(t *testing.T) {
	for _, text := range []string{
		"0000-01-01T00:00:00.000000Z", "0000-00-00T00:00:00.000000Z", "2016-00-01T00:00:00.000000Z",
		"2016-13-01T00:00:00.000000Z", "2016-01-00T00:00:00.000000Z", "2016-01-32T00:00:00.000000Z",
		"2016-02-30T00:00:00.000000Z", "2015-02-29T00:00:00.000000Z", "1900-02-29T00:00:00.000000Z",
		"2016-02-03T24:00:00.000000Z", "2016-02-03T99:00:00.000000Z", "2016-02-03T23:60:00.000000Z",
		"2016-02-03T10:60:00.000000Z", "2016-02-03T00:99:00.000000Z", "2016-02-03T00:00:60.000000Z", "2016-02-03T23:59:60.000000Z",
		"2016-12-31T23:59:61.000000Z", "2016-12-31T23:58:60.000000Z", "2016-12-31T22:59:60.000000Z",
		"2016-12-31T24:00:00.000000Z", "2017-01-01T23:59:60.000000Z", "2015-12-31T23:59:60.000000Z",
		"1971-12-31T23:59:60.000000Z", "9999-99-99T99:99:99.999999Z",
	} {
		readFails(t, tick.Known(), text, 0, api.ErrTime)
	}
	readFails(t, upAndDown(), "2000-01-09T23:59:59.000000Z", 0, api.ErrTime)
	readFails(t, upAndDown(), "2000-01-09T23:59:60.000000Z", 0, api.ErrTime)
}
