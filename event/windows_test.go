package event_test

import (
	"math/rand"
	"slices"
	"testing"

	"meridian/api"
	"meridian/event"
)

func needWindows(t *testing.T, x event.Track, level int, want []event.Span) {
	t.Helper()
	if got, err := x.Windows(level); err != nil || !slices.Equal(got, want) {
		t.Fatalf("Windows(%d) of %v = %v, %v, want %v", level, x, got, err, want)
	}
}

// P82: windows, written out.
func TestKnownWindows(t *testing.T) {
	for _, k := range knowns() {
		needWindows(t, k.t, k.level, k.windows)
	}
}

// P82: windows at the ends of a track, at the level and between instants.
func TestWindowsAtEdges(t *testing.T) {
	for _, c := range []struct {
		step, level int
		l           []int
		want        []event.Span
	}{
		{10, 0, []int{0, 0}, nil},
		{10, 0, []int{-1, -2}, nil},
		{10, 0, []int{1, 2}, []event.Span{{0, 11}}},
		{10, 0, []int{0, 5, 0}, []event.Span{{1, 20}}},
		{10, 0, []int{5, 0, 5}, []event.Span{{0, 10}, {11, 21}}},
		{10, 0, []int{5, 0, 0}, []event.Span{{0, 10}}},
		{10, 0, []int{0, 0, 5}, []event.Span{{11, 21}}},
		{10, 0, []int{-99, 1}, []event.Span{{10, 11}}},
		{10, 0, []int{1, -99}, []event.Span{{0, 1}}},
		{10, 0, []int{-99, 1, -99}, []event.Span{{10, 11}}},
		{1, 0, []int{-1, 1, -1, 1, -1}, []event.Span{{1, 2}, {3, 4}}},
		{1, 0, []int{1, -1, 1, 1}, []event.Span{{0, 1}, {2, 4}}},
		{2, 0, []int{-1, 3, -1}, []event.Span{{1, 4}}},
		{2, 0, []int{-1, 1, -1}, []event.Span{{2, 3}}},
		{2, -great, []int{1 - great, 1 - great}, []event.Span{{0, 3}}},
		{2, great, []int{great, great}, nil},
		{api.MaxTime, 0, []int{1, 1}, []event.Span{{0, api.MaxTime + 1}}},
	} {
		needWindows(t, event.Track{Step: c.step, L: c.l}, c.level, c.want)
	}
}

// P82: each instant of a small track is in a window or is not above.
func TestWindows(t *testing.T) {
	dice := rand.New(rand.NewSource(82))
	several := 0
	for range 4000 {
		x := small(dice)
		level := levelOf(dice, x)
		want := toldSpans(x.From, x.From+x.Step*(len(x.L)-1)+1, func(at int) bool { return toldAbove(x, whole(at), level) })
		needWindows(t, x, level, want)
		if len(want) > 1 {
			several++
		}
	}
	if several < 500 {
		t.Errorf("%d with several windows", several)
	}
}

// P82: of a wide track, at the instants around each window's ends and each height's.
func TestWideWindows(t *testing.T) {
	dice := rand.New(rand.NewSource(83))
	for range 4000 {
		x := wide(dice)
		level := levelOf(dice, x)
		last := x.From + x.Step*(len(x.L)-1)
		l, err := x.Windows(level)
		if err != nil {
			t.Fatal(err)
		}
		ask := []int{x.From, last}
		for i := range x.L {
			at := x.From + i*x.Step
			ask = append(ask, at-1, at, at+1)
		}
		for i, s := range l {
			ask = append(ask, s.From-1, s.From, s.To-1, s.To)
			if s.From >= s.To || i > 0 && s.From <= l[i-1].To || s.From < x.From || s.To > last+1 {
				t.Fatalf("Windows(%d) of %v = %v", level, x, l)
			}
		}
		for _, at := range ask {
			if at < x.From || at > last {
				continue
			}
			in := slices.ContainsFunc(l, func(s event.Span) bool { return s.From <= at && at < s.To })
			if in != toldAbove(x, whole(at), level) {
				t.Fatalf("Windows(%d) of %v = %v, at %d", level, x, l, at)
			}
		}
	}
}
