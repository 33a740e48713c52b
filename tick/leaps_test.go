package tick_test

import (
	"math"
	"slices"
	"testing"

	"meridian/api"
	"meridian/tick"
)

// P11: the known table, row by row.
func TestKnown(t *testing.T) {
	days := []string{
		"1972-01-01", "1972-07-01", "1973-01-01", "1974-01-01", "1975-01-01", "1976-01-01", "1977-01-01",
		"1978-01-01", "1979-01-01", "1980-01-01", "1981-07-01", "1982-07-01", "1983-07-01", "1985-07-01",
		"1988-01-01", "1990-01-01", "1991-01-01", "1992-07-01", "1993-07-01", "1994-07-01", "1996-01-01",
		"1997-07-01", "1999-01-01", "2006-01-01", "2009-01-01", "2012-07-01", "2015-07-01", "2017-01-01",
	}
	l := tick.Known()
	if len(l) != len(days) {
		t.Fatalf("%d rows, want %d", len(l), len(days))
	}
	for i, text := range days {
		s, err := tick.Read(nil, text+"T00:00:00.000000Z")
		if want := (api.Leap{Day: s.Day, Ahead: 10 + i}); err != nil || l[i] != want {
			t.Errorf("row %d is %v, want %v (%s, %v)", i, l[i], want, text, err)
		}
	}
	if err := tick.Valid(l); err != nil {
		t.Error(err)
	}
}

// P4: what is answered is new memory.
func TestKnownIsNew(t *testing.T) {
	l := tick.Known()
	clear(l)
	if again := tick.Known(); again[0] != (api.Leap{Day: -10227, Ahead: 10}) || again[27] != (api.Leap{Day: 6210, Ahead: 37}) {
		t.Error("a change of an answer shows in the next one")
	}
}

// rising: a valid table of so many rows.
func rising(rows int) []api.Leap {
	l := make([]api.Leap, rows)
	for i := range l {
		l[i] = api.Leap{Day: 2 * i, Ahead: i}
	}
	return l
}

// P11: tables that are right, up to their edges.
func TestValidTables(t *testing.T) {
	for _, l := range [][]api.Leap{
		nil, {}, {{}},
		{{Day: 4000000, Ahead: 1000}}, {{Day: -4000000, Ahead: -1000}},
		{{Day: 0}, {Day: 2, Ahead: 1}}, {{Day: 0}, {Day: 2, Ahead: -1}, {Day: 4}},
		{{Day: -4000000, Ahead: 999}, {Day: 4000000, Ahead: 1000}},
		rising(api.MaxLeaps),
	} {
		if err := tick.Valid(l); err != nil {
			t.Errorf("Valid(%v) = %v", l, err)
		}
	}
}

// wrongTables: each with the error that it has.
func wrongTables() []struct {
	l   []api.Leap
	err error
} {
	return []struct {
		l   []api.Leap
		err error
	}{
		{rising(api.MaxLeaps + 1), api.ErrBound},
		{make([]api.Leap, api.MaxLeaps+1), api.ErrBound}, // wrong rows too: the bound is named first
		{[]api.Leap{{Day: 0}, {Day: 1, Ahead: 1}}, api.ErrTable},
		{[]api.Leap{{Day: 0}, {Day: 0, Ahead: 1}}, api.ErrTable},
		{[]api.Leap{{Day: 0}, {Day: -2, Ahead: 1}}, api.ErrTable},
		{[]api.Leap{{Day: 0}, {Day: 2, Ahead: 1}, {Day: 3, Ahead: 2}}, api.ErrTable},
		{[]api.Leap{{Day: 0}, {Day: 2}}, api.ErrTable},
		{[]api.Leap{{Day: 0}, {Day: 2, Ahead: 2}}, api.ErrTable},
		{[]api.Leap{{Day: 0}, {Day: 2, Ahead: -2}}, api.ErrTable},
		{[]api.Leap{{Day: 0}, {Day: 2, Ahead: 1}, {Day: 4, Ahead: 1}}, api.ErrTable},
		{[]api.Leap{{Day: 4000001}}, api.ErrTable},
		{[]api.Leap{{Day: -4000001}}, api.ErrTable},
		{[]api.Leap{{Day: 0}, {Day: 4000001, Ahead: 1}}, api.ErrTable},
		{[]api.Leap{{Ahead: 1001}}, api.ErrTable},
		{[]api.Leap{{Ahead: -1001}}, api.ErrTable},
		{[]api.Leap{{Ahead: 1000}, {Day: 2, Ahead: 1001}}, api.ErrTable},
		{[]api.Leap{{Day: math.MinInt}, {Day: math.MaxInt, Ahead: 1}}, api.ErrTable},
		{[]api.Leap{{Ahead: math.MinInt}, {Day: 2, Ahead: math.MaxInt}}, api.ErrTable},
	}
}

// P11: tables that are wrong.
func TestWrongTables(t *testing.T) {
	for _, c := range wrongTables() {
		if err := tick.Valid(c.l); err != c.err {
			t.Errorf("Valid(%v) = %v, want %v", c.l, err, c.err)
		}
	}
}

// P12, P13: each call that takes a table tells Valid's errors, bare, ahead of all else.
func TestWrongTablesEverywhere(t *testing.T) {
	for _, c := range wrongTables() {
		if n, err := tick.Instant(c.l, api.Stamp{Micro: -1}); n != 0 || err != c.err {
			t.Errorf("Instant by %v = %d, %v", c.l, n, err)
		}
		if s, err := tick.Stamped(c.l, math.MaxInt); s != (api.Stamp{}) || err != c.err {
			t.Errorf("Stamped by %v = %v, %v", c.l, s, err)
		}
		if text, err := tick.Text(c.l, api.Stamp{Micro: -1}); text != "" || err != c.err {
			t.Errorf("Text by %v = %q, %v", c.l, text, err)
		}
		if s, err := tick.Read(c.l, "?"); s != (api.Stamp{}) || err != c.err {
			t.Errorf("Read by %v = %v, %v", c.l, s, err)
		}
	}
}

// P3, P4: a table is only read, and nothing behind its length.
func TestTableIsOnlyRead(t *testing.T) {
	whole := append(tick.Known(), api.Leap{Day: -9, Ahead: 999})
	before := slices.Clone(whole)
	l := whole[:len(whole)-1]
	s, err := tick.Stamped(l, 0)
	if err != nil {
		t.Fatal(err)
	}
	if n, err := tick.Instant(l, s); err != nil || n != 0 {
		t.Error(n, err)
	}
	text, err := tick.Text(l, s)
	if err != nil {
		t.Fatal(err)
	}
	if again, err := tick.Read(l, text); err != nil || again != s {
		t.Error(again, err)
	}
	if !slices.Equal(whole, before) {
		t.Error("the table was written to")
	}
}
