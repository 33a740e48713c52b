package event_test

import (
	"math"
	"math/rand"
	"slices"
	"testing"

	"meridian/api"
	"meridian/event"
)

func needEvents(t *testing.T, x event.Track, level int, want []event.Event) {
	t.Helper()
	if got, err := x.Events(level); err != nil || !slices.Equal(got, want) {
		t.Fatalf("Events(%d) of %v = %v, %v, want %v", level, x, got, err, want)
	}
}

// P81: events, written out.
func TestKnownEvents(t *testing.T) {
	for _, k := range knowns() {
		needEvents(t, k.t, k.level, k.events)
	}
}

// P81: what a rise, a set, a peak and a dip is, at the ends of a track, at the level and
// in rows.
func TestEventsAtEdges(t *testing.T) {
	for _, c := range []struct {
		level int
		l     []int
		want  []event.Event
	}{
		// At the level it is not above.
		{0, []int{0, 0, 0}, nil},
		{0, []int{1, 1, 1}, nil},
		{0, []int{0, 5}, []event.Event{{api.Rise, 0, 0}}},
		{0, []int{5, 0}, []event.Event{{api.Set, 10, 1}}},
		{0, []int{0, 0, 5, 0, 0}, []event.Event{{api.Rise, 10, 1}, {api.Peak, 20, 2}, {api.Set, 30, 3}}},
		// It comes to the level, and goes up again at once or later.
		{0, []int{5, 0, 5}, []event.Event{{api.Rise, 10, 1}, {api.Set, 10, 1}, {api.Dip, 10, 1}}},
		{0, []int{5, 0, 0, 5}, []event.Event{{api.Set, 10, 1}, {api.Dip, 10, 1}, {api.Rise, 20, 2}}},
		// It comes to the level from below: no rise, and a turn that is no peak.
		{0, []int{-5, 0, -5}, nil},
		{0, []int{-5, 1, -5}, []event.Event{{api.Rise, 8, 0}, {api.Peak, 10, 1}, {api.Set, 12, 1}}},
		{0, []int{5, 1, 5}, nil},
		{0, []int{5, -1, 5}, []event.Event{{api.Set, 9, 0}, {api.Dip, 10, 1}, {api.Rise, 11, 1}}},
		// Rows that reach an end, rows that do not, and stairs.
		{0, []int{7, 7, 3, 9, 9}, nil},
		{9, []int{7, 7, 3, 9, 9}, []event.Event{{api.Dip, 20, 2}}},
		{9, []int{3, 7, 7, 3, 3}, nil},
		{0, []int{3, 7, 7, 3, 3}, []event.Event{{api.Peak, 10, 1}}},
		{0, []int{1, 2, 2, 3, 3, 4}, nil},
		{9, []int{4, 3, 3, 2, 2, 1}, nil},
		{9, []int{1, 1, 2, 0, 0, 0, 1}, []event.Event{{api.Dip, 30, 3}}},
		{1, []int{1, 1, 2, 0, 0, 0, 1}, []event.Event{{api.Rise, 10, 1}, {api.Peak, 20, 2}, {api.Set, 25, 2}, {api.Dip, 30, 3}}},
		// No whole instant between the moment and the next height's.
		{0, []int{-1, 99}, []event.Event{{api.Rise, 0, 0}}},
		{0, []int{-99, 1}, []event.Event{{api.Rise, 9, 0}}},
		{0, []int{99, -1}, []event.Event{{api.Set, 10, 0}}},
		{0, []int{1, -99}, []event.Event{{api.Set, 1, 0}}},
		// The greatest levels.
		{great, []int{great, great - 1, great}, []event.Event{{api.Dip, 10, 1}}},
		{-great, []int{-great, -great, 1 - great}, []event.Event{{api.Rise, 10, 1}}},
	} {
		needEvents(t, event.Track{Step: 10, L: c.l}, c.level, c.want)
	}
}

// P81: moments ahead of instant 0 are rounded the same way.
func TestEventsRounded(t *testing.T) {
	needEvents(t, event.Track{From: -10, Step: 10, L: []int{-1, 2}}, 0, []event.Event{{api.Rise, -7, 0}})
	needEvents(t, event.Track{From: -10, Step: 10, L: []int{2, -1}}, 0, []event.Event{{api.Set, -3, 0}})
	needEvents(t, event.Track{From: -5, Step: 10, L: []int{-10, 11}}, 0, []event.Event{{api.Rise, -1, 0}})
	needEvents(t, event.Track{From: -5, Step: 10, L: []int{10, -11}}, 0, []event.Event{{api.Set, 0, 0}})
}

// P81: tracks of all kinds.
func TestEvents(t *testing.T) {
	dice := rand.New(rand.NewSource(81))
	kinds := [5]int{}
	for range 4000 {
		for _, x := range []event.Track{small(dice), wide(dice)} {
			level := levelOf(dice, x)
			want := toldEvents(x, level)
			needEvents(t, x, level, want)
			for _, e := range want {
				kinds[e.Kind]++
			}
		}
	}
	if slices.Min(kinds[1:]) < 1000 {
		t.Errorf("so many of each kind: %v", kinds)
	}
}

// P81: as many events as there can be.
func TestManyEvents(t *testing.T) {
	x := event.Track{From: -api.MaxTime, Step: 2 * api.MaxTime / (api.MaxList - 1), L: make([]int, api.MaxList)}
	for i := range x.L {
		x.L[i] = great - i%2*(2*great)
	}
	got, err := x.Events(0)
	if want := 2*(api.MaxList-1) - 1; err != nil || len(got) != want {
		t.Fatalf("%d events, %v, want %d", len(got), err, want)
	}
	needEvents(t, x, 0, toldEvents(x, 0))
	needEvents(t, x, great-1, toldEvents(x, great-1))
	needEvents(t, x, -great, toldEvents(x, -great))
}

// P81, P82, P84, P3: wrong tracks, then wrong levels. The errors are bare.
func TestWrong(t *testing.T) {
	need := func(x event.Track, level int, want error) {
		t.Helper()
		if l, err := x.Events(level); len(l) != 0 || err != want {
			t.Errorf("Events(%d) of %d heights = %v, %v, want %v", level, len(x.L), l, err, want)
		}
		if l, err := x.Windows(level); len(l) != 0 || err != want {
			t.Errorf("Windows(%d) of %d heights = %v, %v, want %v", level, len(x.L), l, err, want)
		}
		for _, from := range []int{math.MinInt, 0, math.MaxInt} {
			if e, ok, err := x.First(level, from); e != (event.Event{}) || ok || err != want {
				t.Errorf("First(%d, %d) of %d heights = %v, %v, %v, want %v", level, from, len(x.L), e, ok, err, want)
			}
		}
	}
	for _, c := range wrongTracks() {
		need(c.t, 0, c.want)
		need(c.t, math.MinInt, c.want)
	}
	for _, level := range tooHigh() {
		need(event.Track{Step: 1, L: []int{-1, 1, -1}}, level, api.ErrShape)
	}
}

// P4: a track is only read, and what is answered is new.
func TestTrackStays(t *testing.T) {
	for _, k := range knowns() {
		l := slices.Clone(k.t.L)
		x := event.Track{From: k.t.From, Step: k.t.Step, L: l}
		events, _ := x.Events(k.level)
		windows, _ := x.Windows(k.level)
		x.First(k.level, 0)
		x.At(x.From)
		if !slices.Equal(l, k.t.L) {
			t.Errorf("%v became %v", k.t.L, l)
		}
		clear(events)
		clear(windows)
		needEvents(t, x, k.level, k.events)
		needWindows(t, x, k.level, k.windows)
	}
}
