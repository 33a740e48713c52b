package event_test

import (
	"math"
	"math/rand"
	"testing"

	"meridian/api"
	"meridian/event"
)

func needFirst(t *testing.T, x event.Track, level, from int, want event.Event, there bool) {
	t.Helper()
	if got, ok, err := x.First(level, from); got != want || ok != there || err != nil {
		t.Fatalf("First(%d, %d) of %v = %v, %v, %v, want %v, %v", level, from, x, got, ok, err, want, there)
	}
}

// P84: the first rise or set, also at the instant itself; peaks and dips are none.
func TestKnownFirst(t *testing.T) {
	x := event.Track{From: -1000, Step: 7, L: []int{4, 9, 9, 2, 2, 2, 6, -3, -3, 5, 5, 1}}
	for _, c := range []struct {
		from int
		want event.Event
	}{
		{math.MinInt, event.Event{Kind: api.Rise, At: -1000}},
		{-1000, event.Event{Kind: api.Rise, At: -1000}},
		{-999, event.Event{Kind: api.Set, At: -981, Index: 2}},
		{-981, event.Event{Kind: api.Set, At: -981, Index: 2}},
		{-980, event.Event{Kind: api.Rise, At: -962, Index: 5}},
		{-961, event.Event{Kind: api.Set, At: -956, Index: 6}},
		{-955, event.Event{Kind: api.Rise, At: -938, Index: 8}},
		{-937, event.Event{Kind: api.Set, At: -928, Index: 10}},
		{-928, event.Event{Kind: api.Set, At: -928, Index: 10}},
	} {
		needFirst(t, x, 4, c.from, c.want, true)
	}
	for _, from := range []int{-927, 0, api.MaxTime + 1, math.MaxInt} {
		needFirst(t, x, 4, from, event.Event{}, false)
	}
	needFirst(t, x, 9, math.MinInt, event.Event{}, false)
	needFirst(t, x, -4, math.MinInt, event.Event{}, false)
	// Of one instant, in the order of Events: the rise ahead of the set of one height,
	// the set of an earlier one ahead of a rise.
	touch := event.Track{Step: 10, L: []int{5, 0, 5}}
	needFirst(t, touch, 0, 10, event.Event{Kind: api.Rise, At: 10, Index: 1}, true)
	needFirst(t, touch, 0, 11, event.Event{}, false)
	through := event.Track{Step: 1, L: []int{5, -1, 3}}
	needFirst(t, through, 0, 1, event.Event{Kind: api.Set, At: 1}, true)
}

// P84: tracks of all kinds, from instants at their events and beside them.
func TestFirst(t *testing.T) {
	dice := rand.New(rand.NewSource(84))
	for range 1500 {
		for _, x := range []event.Track{small(dice), wide(dice)} {
			level := levelOf(dice, x)
			ask := []int{math.MinInt, x.From, x.From + x.Step*(len(x.L)-1), math.MaxInt}
			for _, e := range toldEvents(x, level) {
				ask = append(ask, e.At-1, e.At, e.At+1)
			}
			for _, from := range ask {
				want, there := toldFirst(x, level, from)
				needFirst(t, x, level, from, want, there)
			}
		}
	}
}
