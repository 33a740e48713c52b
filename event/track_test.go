package event_test

import (
	"math"
	"math/rand"
	"slices"
	"testing"

	"meridian/api"
	"meridian/event"
)

// P80: tracks that are valid, up to the edges.
func TestValid(t *testing.T) {
	for _, x := range []event.Track{
		{Step: 1, L: []int{0, 0}},
		{Step: 1, L: []int{great, -great}},
		{Step: 1, L: make([]int, api.MaxList)},
		{From: api.MaxTime - 1, Step: 1, L: []int{1, 2}},
		{From: -api.MaxTime, Step: 2 * api.MaxTime, L: []int{1, 2}},
		{From: -api.MaxTime, Step: api.MaxTime, L: []int{1, 2, 3}},
		{Step: api.MaxTime, L: []int{1, 2}},
		{From: -api.MaxTime, Step: 2 * api.MaxTime / (api.MaxList - 1), L: make([]int, api.MaxList)},
	} {
		if err := x.Valid(); err != nil {
			t.Errorf("from %d by %d, %d heights: %v", x.From, x.Step, len(x.L), err)
		}
	}
	for _, k := range knowns() {
		if err := k.t.Valid(); err != nil {
			t.Errorf("%v: %v", k.t, err)
		}
	}
}

// P80, P3: tracks that are not. The errors are bare.
func TestNotValid(t *testing.T) {
	for _, c := range wrongTracks() {
		if err := c.t.Valid(); err != c.want {
			t.Errorf("from %d by %d, %d heights: %v, want %v", c.t.From, c.t.Step, len(c.t.L), err, c.want)
		}
		for _, x := range []int{c.t.From, 0, math.MinInt} {
			if h, err := c.t.At(x); h != 0 || err != c.want {
				t.Errorf("from %d by %d, %d heights: At(%d) = %d, %v, want %v", c.t.From, c.t.Step, len(c.t.L), x, h, err, c.want)
			}
		}
	}
}

// P80, P3: heights behind the list's length are not looked at, and none is written.
func TestBehind(t *testing.T) {
	l := []int{0, 7, math.MaxInt, math.MinInt}
	x := event.Track{From: 100, Step: 10, L: l[:2]}
	if err := x.Valid(); err != nil {
		t.Error(err)
	}
	if h, err := x.At(110); h != 7 || err != nil {
		t.Error(h, err)
	}
	if e, err := x.Events(6); err != nil || !slices.Equal(e, []event.Event{{1, 108, 0}}) {
		t.Error(e, err)
	}
	if w, err := x.Windows(6); err != nil || !slices.Equal(w, []event.Span{{109, 111}}) {
		t.Error(w, err)
	}
	if !slices.Equal(l, []int{0, 7, math.MaxInt, math.MinInt}) {
		t.Error(l)
	}
}

func needAt(t *testing.T, x event.Track, at, want int) {
	t.Helper()
	if got, err := x.At(at); got != want || err != nil {
		t.Errorf("At(%d) of %v = %d, %v, want %d", at, x, got, err, want)
	}
}

// P80: heights, written out.
func TestKnownAt(t *testing.T) {
	x := event.Track{From: -20, Step: 7, L: []int{-3, 4, 4, -10, 0}}
	for i, want := range []int{-3, -2, -1, 0, 1, 2, 3, 4, 4, 4, 4, 4, 4, 4, 4, 2, 0, -2, -4, -6, -8, -10, -9, -8, -6, -5, -3, -2, 0} {
		needAt(t, x, i-20, want)
	}
	x = event.Track{From: -api.MaxTime, Step: api.MaxTime / 3 * 2, L: []int{great, -great, great - 1, -1}}
	for _, c := range [][2]int{
		{-300000000000000000, 1099511627776}, {-299999999999999999, 1099511627775}, {-299999999999909051, 1099511627775},
		{-299999999999909050, 1099511627774}, {-100000000000000001, -1099511627776}, {-100000000000000000, -1099511627776},
		{-99999999999999999, -1099511627776}, {-1, -1}, {0, -1}, {1, -1}, {12345678901234567, 135742175046},
		{299999999999999999, -1}, {300000000000000000, -1},
	} {
		needAt(t, x, c[0], c[1])
	}
	x = event.Track{From: -api.MaxTime, Step: 2 * api.MaxTime, L: []int{-great, great}}
	for _, c := range [][2]int{
		{-300000000000000000, -1099511627776}, {-299999999999727152, -1099511627776}, {-299999999999727151, -1099511627775},
		{-1, -1}, {0, 0}, {1, 0}, {299999999999727151, 1099511627774}, {299999999999727152, 1099511627775},
		{299999999999999999, 1099511627775}, {300000000000000000, 1099511627776},
	} {
		needAt(t, x, c[0], c[1])
	}
}

// P80: every instant of small tracks, and some of wide ones.
func TestAt(t *testing.T) {
	dice := rand.New(rand.NewSource(80))
	for range 400 {
		x := small(dice)
		for at := x.From; at <= x.From+x.Step*(len(x.L)-1); at++ {
			needAt(t, x, at, floor(toldHeight(x, whole(at))))
		}
		x = wide(dice)
		last := x.From + x.Step*(len(x.L)-1)
		for range 20 {
			at := x.From + dice.Intn(last-x.From+1)
			needAt(t, x, at, floor(toldHeight(x, whole(at))))
		}
	}
}

// P80: there are heights at the first and the last instant, and none beyond them.
func TestNotAt(t *testing.T) {
	for _, x := range []event.Track{
		{From: 100, Step: 10, L: []int{3, 7, -7}},
		{From: -api.MaxTime, Step: 2 * api.MaxTime, L: []int{3, -7}},
		{From: -api.MaxTime, Step: 1, L: []int{3, -7}},
		{From: api.MaxTime - 1, Step: 1, L: []int{3, -7}},
	} {
		last := x.From + x.Step*(len(x.L)-1)
		needAt(t, x, x.From, 3)
		needAt(t, x, last, -7)
		for _, at := range []int{x.From - 1, last + 1, x.From - x.Step, last + x.Step, math.MinInt, math.MaxInt} {
			if h, err := x.At(at); h != 0 || err != api.ErrTime {
				t.Errorf("At(%d) of %v = %d, %v", at, x, h, err)
			}
		}
	}
}
