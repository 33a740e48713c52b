package mount_test

import (
	"testing"

	"meridian/api"
	"meridian/mount"
)

// stand: where a mount is, and how.
type stand struct{ a, b, state int }

func follows(t *testing.T, m *mount.Mount, l []stand) {
	t.Helper()
	for i, want := range l {
		a, b := m.Tick()
		x, y := m.At()
		if got := (stand{a, b, m.State()}); got != want || x != a || y != b {
			t.Errorf("tick %d: %v, at %d, %d; want %v", i+1, got, x, y, want)
		}
	}
}

func sent(t *testing.T, m *mount.Mount, number int, kind string, a, b int) {
	t.Helper()
	if r := m.Take(mount.Command{Number: number, Kind: kind, A: a, B: b}); r.Err != nil {
		t.Fatalf("%d %s %d %d: %v", number, kind, a, b, r.Err)
	}
}

func ready(t *testing.T, patience int) *mount.Mount {
	t.Helper()
	return opened(t, left, right, patience).m
}

// P92: a slew goes by what is left, at most Fast, up and down; the axis that is there
// first waits.
func TestSlew(t *testing.T) {
	m := ready(t, 1000)
	sent(t, m, 1, "slew", 9, 39)
	follows(t, m, []stand{{5, 39, api.Slewing}, {8, 39, api.Slewing}, {9, 39, api.Idle}, {9, 39, api.Idle}})
	sent(t, m, 2, "slew", 10, 15)
	follows(t, m, []stand{{10, 31, api.Slewing}, {10, 23, api.Slewing}, {10, 15, api.Idle}})
	sent(t, m, 3, "slew", 4, 31)
	follows(t, m, []stand{{7, 23, api.Slewing}, {4, 31, api.Idle}})
	// To where it stands it is Slewing until the tick.
	sent(t, m, 4, "slew", 4, 31)
	follows(t, m, []stand{{4, 31, api.Idle}})
	// A new goal on the way.
	sent(t, m, 5, "slew", 10, 0)
	follows(t, m, []stand{{7, 23, api.Slewing}})
	sent(t, m, 6, "slew", -6, 40)
	follows(t, m, []stand{{4, 31, api.Slewing}, {1, 39, api.Slewing}, {-2, 40, api.Slewing}, {-5, 40, api.Slewing}, {-6, 40, api.Idle}})
}

// P92: parking goes to Home of both, whatever the goal was; also from there.
func TestPark(t *testing.T) {
	m := ready(t, 1000)
	sent(t, m, 1, "slew", -4, 25)
	follows(t, m, []stand{{-1, 32, api.Slewing}})
	sent(t, m, 2, "park", 7, 7)
	follows(t, m, []stand{{2, 40, api.Parked}, {2, 40, api.Parked}})
	sent(t, m, 3, "slew", -6, 40)
	follows(t, m, []stand{{-1, 40, api.Slewing}, {-4, 40, api.Slewing}, {-6, 40, api.Idle}})
	sent(t, m, 4, "park", 0, 0)
	follows(t, m, []stand{{-3, 40, api.Parking}})
	sent(t, m, 5, "park", 0, 0)
	follows(t, m, []stand{{0, 40, api.Parking}})
	sent(t, m, 6, "stop", 0, 0)
	follows(t, m, []stand{{0, 40, api.Stopped}, {0, 40, api.Stopped}})
	sent(t, m, 7, "slew", 2, 40)
	follows(t, m, []stand{{2, 40, api.Idle}})
	sent(t, m, 8, "park", 0, 0)
	if m.State() != api.Parking {
		t.Error(m.State())
	}
	follows(t, m, []stand{{2, 40, api.Parked}})
}

// P92: a limit may be reached by tracking; beyond it neither axis goes, and it is
// Stopped, whichever axis and end it is.
func TestTrack(t *testing.T) {
	for _, c := range []struct {
		a, b int // steps
		l    []stand
	}{
		{3, -8, []stand{{5, 32, api.Tracking}, {8, 24, api.Tracking}, {8, 24, api.Stopped}, {8, 24, api.Stopped}}},
		{-2, -1, []stand{{0, 39, api.Tracking}, {-2, 38, api.Tracking}, {-4, 37, api.Tracking}, {-6, 36, api.Tracking}, {-6, 36, api.Stopped}}},
		{2, 0, []stand{{4, 40, api.Tracking}, {6, 40, api.Tracking}, {8, 40, api.Tracking}, {10, 40, api.Tracking}, {10, 40, api.Stopped}}},
		{1, 1, []stand{{2, 40, api.Stopped}}},
		{0, -8, []stand{{2, 32, api.Tracking}, {2, 24, api.Tracking}, {2, 16, api.Tracking}, {2, 8, api.Tracking}, {2, 0, api.Tracking}, {2, 0, api.Stopped}}},
		{0, 0, []stand{{2, 40, api.Tracking}, {2, 40, api.Tracking}}},
	} {
		m := ready(t, 1000)
		sent(t, m, 1, "slew", 2, 40)
		sent(t, m, 2, "track", c.a, c.b)
		follows(t, m, c.l)
	}
}

// P92: new steps count from then on, and a stop lets it stand.
func TestTrackOn(t *testing.T) {
	m := ready(t, 1000)
	sent(t, m, 1, "slew", 2, 40)
	sent(t, m, 2, "track", 1, -1)
	follows(t, m, []stand{{3, 39, api.Tracking}, {4, 38, api.Tracking}})
	sent(t, m, 3, "track", -3, -2)
	follows(t, m, []stand{{1, 36, api.Tracking}})
	sent(t, m, 4, "hello", 0, 0)
	follows(t, m, []stand{{-2, 34, api.Tracking}})
	sent(t, m, 5, "stop", 0, 0)
	follows(t, m, []stand{{-2, 34, api.Stopped}, {-2, 34, api.Stopped}})
	sent(t, m, 6, "slew", 0, 34)
	follows(t, m, []stand{{0, 34, api.Idle}})
	sent(t, m, 7, "track", 0, 3)
	follows(t, m, []stand{{0, 37, api.Tracking}, {0, 40, api.Tracking}, {0, 40, api.Stopped}})
}

// P92: behind patience ticks without a command it parks, from the next tick on, out of
// each state.
func TestWatch(t *testing.T) {
	m := ready(t, 2)
	sent(t, m, 1, "slew", -6, 0)
	follows(t, m, []stand{{-1, 32, api.Slewing}, {-4, 24, api.Parking}, {-1, 32, api.Parking}, {2, 40, api.Parked}})
	follows(t, m, []stand{{2, 40, api.Parked}, {2, 40, api.Parked}, {2, 40, api.Parked}})
	sent(t, m, 2, "slew", 4, 40)
	follows(t, m, []stand{{4, 40, api.Idle}, {4, 40, api.Parking}, {2, 40, api.Parked}})
	sent(t, m, 3, "slew", 4, 40)
	sent(t, m, 4, "track", 1, 0)
	follows(t, m, []stand{{3, 40, api.Tracking}, {4, 40, api.Parking}, {2, 40, api.Parked}})
	sent(t, m, 5, "slew", 10, 39)
	follows(t, m, []stand{{5, 39, api.Slewing}})
	sent(t, m, 6, "stop", 0, 0)
	follows(t, m, []stand{{5, 39, api.Stopped}, {5, 39, api.Parking}, {2, 40, api.Parked}})
	// It comes to its goal, or is Stopped, with the tick that is one too many.
	sent(t, m, 7, "slew", 7, 40)
	follows(t, m, []stand{{5, 40, api.Slewing}, {7, 40, api.Parking}, {4, 40, api.Parking}})
	sent(t, m, 8, "stop", 0, 0)
	sent(t, m, 9, "track", 0, 1)
	follows(t, m, []stand{{4, 40, api.Stopped}, {4, 40, api.Parking}, {2, 40, api.Parked}})
}

// P92: with a patience of 1 each tick is one too many.
func TestWatchAtOnce(t *testing.T) {
	m := ready(t, 1)
	sent(t, m, 1, "slew", 10, 40)
	follows(t, m, []stand{{5, 40, api.Parking}})
	sent(t, m, 2, "stop", 0, 0)
	sent(t, m, 3, "track", 3, 0)
	follows(t, m, []stand{{8, 40, api.Parking}, {5, 40, api.Parking}, {2, 40, api.Parked}})
}

// P92: commands that are taken keep it going, also with errors; those that come again,
// or too late, do not.
func TestWatchCounts(t *testing.T) {
	m := ready(t, 3)
	for range 7 {
		m.Tick()
	}
	sent(t, m, 10, "slew", 3, 39)
	follows(t, m, []stand{{3, 39, api.Idle}, {3, 39, api.Idle}})
	for i, c := range []mount.Command{{Kind: "hello"}, {Kind: "jump"}, {Kind: "slew", A: 99}, {Kind: "track", B: 99}, {Kind: "stop"}} {
		c.Number = 11 + i
		m.Take(c)
		m.Tick()
		m.Tick()
		if m.State() == api.Parking {
			t.Errorf("%s does not count", c.Kind)
		}
	}
	m.Take(mount.Command{Number: 15, Kind: "stop"})
	m.Take(mount.Command{Number: 14, Kind: "hello"})
	follows(t, m, []stand{{3, 39, api.Parking}})
	// Nor do they start it anew, while it is on its way.
	m.Take(mount.Command{Number: 15, Kind: "stop"})
	follows(t, m, []stand{{2, 40, api.Parked}})
}

// P92: a stop out of Parking starts the count anew.
func TestWatchAfterStop(t *testing.T) {
	m := ready(t, 2)
	sent(t, m, 1, "slew", -6, 0)
	follows(t, m, []stand{{-1, 32, api.Slewing}, {-4, 24, api.Parking}})
	sent(t, m, 2, "stop", 0, 0)
	follows(t, m, []stand{{-4, 24, api.Stopped}, {-4, 24, api.Parking}, {-1, 32, api.Parking}})
}

// P92: as far as axes reach, and as fast.
func TestFarAndFast(t *testing.T) {
	wide := mount.Limits{Low: -great, High: great, Fast: great, Home: great}
	m := opened(t, wide, mount.Limits{Low: -great, High: great, Fast: 1, Home: 0}, great).m
	sent(t, m, 1, "slew", -great, -1)
	follows(t, m, []stand{{0, -1, api.Slewing}, {-great, -1, api.Idle}})
	sent(t, m, 2, "track", great, 1)
	follows(t, m, []stand{{0, 0, api.Tracking}, {great, 1, api.Tracking}, {great, 1, api.Stopped}})
	sent(t, m, 3, "track", -great, -1)
	follows(t, m, []stand{{0, 0, api.Tracking}, {-great, -1, api.Tracking}, {-great, -1, api.Stopped}})
	sent(t, m, 4, "park", 0, 0)
	follows(t, m, []stand{{0, 0, api.Parking}, {great, 0, api.Parked}})
}
