package tick_test

import (
	"math"
	"testing"

	"meridian/api"
	"meridian/tick"
)

// upAndDown: a day of a second more (4), and one of a second less (8).
func upAndDown() []api.Leap {
	return []api.Leap{{Day: 0, Ahead: 10}, {Day: 5, Ahead: 11}, {Day: 9, Ahead: 10}}
}

// P12: stamps and their instants, there and back.
func TestInstants(t *testing.T) {
	for _, c := range []struct {
		l []api.Leap
		s api.Stamp
		t int
	}{
		{nil, api.Stamp{}, 0},
		{nil, api.Stamp{Day: -1, Micro: api.DayLong - 1}, -1},
		{nil, api.Stamp{Day: 3, Micro: 7}, 3*api.DayLong + 7},
		{upAndDown(), api.Stamp{}, 10 * api.Second},
		{upAndDown(), api.Stamp{Day: -7}, -7*api.DayLong + 10*api.Second},
		{upAndDown(), api.Stamp{Day: -1, Micro: api.DayLong - 1}, 10*api.Second - 1},
		{upAndDown(), api.Stamp{Day: 4}, 4*api.DayLong + 10*api.Second},
		{upAndDown(), api.Stamp{Day: 4, Micro: api.DayLong - 1}, 5*api.DayLong + 10*api.Second - 1},
		{upAndDown(), api.Stamp{Day: 4, Micro: api.DayLong}, 5*api.DayLong + 10*api.Second},
		{upAndDown(), api.Stamp{Day: 4, Micro: api.DayLong + api.Second - 1}, 5*api.DayLong + 11*api.Second - 1},
		{upAndDown(), api.Stamp{Day: 5}, 5*api.DayLong + 11*api.Second},
		{upAndDown(), api.Stamp{Day: 8, Micro: api.DayLong - api.Second - 1}, 9*api.DayLong + 10*api.Second - 1},
		{upAndDown(), api.Stamp{Day: 9}, 9*api.DayLong + 10*api.Second},
		{upAndDown(), api.Stamp{Day: 1000, Micro: 1}, 1000*api.DayLong + 10*api.Second + 1},
		{[]api.Leap{{Ahead: -1000}}, api.Stamp{}, -1000 * api.Second},
		{[]api.Leap{{Ahead: 1000}}, api.Stamp{Day: -1, Micro: api.DayLong - 1000*api.Second}, 0},
	} {
		if n, err := tick.Instant(c.l, c.s); err != nil || n != c.t {
			t.Errorf("Instant(%v) = %d, %v, want %d", c.s, n, err, c.t)
		}
		if s, err := tick.Stamped(c.l, c.t); err != nil || s != c.s {
			t.Errorf("Stamped(%d) = %v, %v, want %v", c.t, s, err, c.s)
		}
	}
}

// P12: each microsecond around each row of a table has one stamp, and those rise.
func TestStampsAroundRows(t *testing.T) {
	for _, l := range [][]api.Leap{tick.Known(), upAndDown(), rising(api.MaxLeaps), {{Day: 0, Ahead: -999}, {Day: 2, Ahead: -1000}}} {
		for _, row := range l {
			middle := row.Day*api.DayLong + row.Ahead*api.Second
			last := api.Stamp{Day: math.MinInt}
			for _, off := range []int{-api.DayLong, -2 * api.Second, -api.Second - 1, -api.Second, -api.Second + 1, -1, 0, 1, api.Second, api.DayLong} {
				s, err := tick.Stamped(l, middle+off)
				if err != nil || s.Day < last.Day || s.Day == last.Day && s.Micro <= last.Micro {
					t.Fatal(row, off, s, err, last)
				}
				if n, err := tick.Instant(l, s); err != nil || n != middle+off {
					t.Fatal(row, off, s, n, err)
				}
				last = s
			}
		}
	}
}

// P12: what is no stamp, or has no instant.
func TestNoInstant(t *testing.T) {
	for _, s := range []api.Stamp{
		{Micro: -1}, {Micro: api.DayLong}, {Micro: math.MinInt}, {Micro: math.MaxInt},
		{Day: -1, Micro: api.DayLong}, // the first row makes no day longer
		{Day: 4, Micro: api.DayLong + api.Second}, {Day: 5, Micro: api.DayLong},
		{Day: 8, Micro: api.DayLong - api.Second}, {Day: 8, Micro: api.DayLong - 1}, {Day: 9, Micro: api.DayLong},
		{Day: 3472223}, {Day: -3472224}, {Day: 4000000}, {Day: -4000000}, {Day: 4000001}, {Day: -4000001},
		{Day: 1 << 60}, {Day: math.MinInt}, {Day: math.MaxInt}, {Day: math.MaxInt, Micro: math.MaxInt},
		{Day: 1 << 54}, {Day: 1 << 57}, // times DayLong they wrap round to small numbers
	} {
		if n, err := tick.Instant(upAndDown(), s); n != 0 || err != api.ErrTime {
			t.Errorf("Instant(%v) = %d, %v, want ErrTime", s, n, err)
		}
	}
}

// P12: the last instant, and the first one.
func TestLastInstants(t *testing.T) {
	for _, l := range [][]api.Leap{nil, tick.Known(), {{Ahead: 1000}}, {{Ahead: -1000}}} {
		for _, sign := range []int{1, -1} {
			s, err := tick.Stamped(l, sign*api.MaxTime)
			if err != nil {
				t.Fatal(err)
			}
			if n, err := tick.Instant(l, s); err != nil || n != sign*api.MaxTime {
				t.Errorf("Instant(%v) = %d, %v", s, n, err)
			}
			s.Micro += sign
			if n, err := tick.Instant(l, s); n != 0 || err != api.ErrTime {
				t.Errorf("Instant(%v) = %d, %v, want ErrTime", s, n, err)
			}
		}
	}
}

// P12: what is no instant has no stamp.
func TestNoStamp(t *testing.T) {
	for _, n := range []int{api.MaxTime + 1, -api.MaxTime - 1, math.MinInt, math.MaxInt} {
		if s, err := tick.Stamped(tick.Known(), n); s != (api.Stamp{}) || err != api.ErrTime {
			t.Errorf("Stamped(%d) = %v, %v, want ErrTime", n, s, err)
		}
	}
}

// P12: half a second behind 2016-12-31T23:59:60.500000Z it is 2017.
func TestLeapSecondEnds(t *testing.T) {
	l := tick.Known()
	s, err := tick.Read(l, "2016-12-31T23:59:60.500000Z")
	if err != nil || s != (api.Stamp{Day: 6209, Micro: api.DayLong + api.Second/2}) {
		t.Fatal(s, err)
	}
	n, err := tick.Instant(l, s)
	if err != nil {
		t.Fatal(err)
	}
	if next, err := tick.Stamped(l, n+api.Second/2); err != nil || next != (api.Stamp{Day: 6210}) {
		t.Error(next, err)
	}
}
