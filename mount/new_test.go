package mount_test

import (
	"math"
	"testing"

	"meridian/api"
	"meridian/mount"
)

var plainLimits = mount.Limits{Low: -3, High: 5, Fast: 2, Home: 1}

// P90: it stands at Home of both, Parked, whatever the limits.
func TestNew(t *testing.T) {
	for _, c := range []struct {
		a, b     mount.Limits
		patience int
	}{
		{plainLimits, mount.Limits{Low: 7, High: 9, Fast: 1, Home: 8}, 3},
		{mount.Limits{Low: -9, High: 4, Fast: 1, Home: -9}, mount.Limits{Low: -9, High: 4, Fast: 1, Home: 4}, 1},
		{mount.Limits{Fast: 1}, mount.Limits{Low: 6, High: 6, Fast: 1, Home: 6}, 1},
		{mount.Limits{Low: -great, High: great, Fast: great, Home: great}, mount.Limits{Low: -great, High: -great, Fast: great, Home: -great}, great},
	} {
		m, err := mount.New(c.a, c.b, c.patience)
		if err != nil {
			t.Errorf("%+v: %v", c, err)
			continue
		}
		for range 3 {
			if a, b := m.At(); a != c.a.Home || b != c.b.Home || m.State() != api.Parked {
				t.Errorf("%+v: at %d, %d, in state %d", c, a, b, m.State())
			}
			if a, b := m.Tick(); a != c.a.Home || b != c.b.Home {
				t.Errorf("%+v: ticks to %d, %d", c, a, b)
			}
		}
	}
}

func wrongNew(t *testing.T, a, b mount.Limits, patience int, want error) {
	t.Helper()
	if m, err := mount.New(a, b, patience); m != nil || err != want {
		t.Errorf("%+v, %+v, %d: %v, %v; want %v", a, b, patience, m, err, want)
	}
}

// P90: limits that are wrong, of either axis.
func TestNewWrongLimits(t *testing.T) {
	for _, c := range []struct {
		l    mount.Limits
		want error
	}{
		{mount.Limits{Low: 2, High: 1, Fast: 1, Home: 1}, api.ErrShape},
		{mount.Limits{Low: 2, High: 1, Fast: 1, Home: 2}, api.ErrShape},
		{mount.Limits{Low: 3, High: 1, Fast: 1, Home: 2}, api.ErrShape},
		{mount.Limits{Low: -4, High: 4, Fast: 1, Home: 5}, api.ErrShape},
		{mount.Limits{Low: -4, High: 4, Fast: 1, Home: -5}, api.ErrShape},
		{mount.Limits{Low: -4, High: 4}, api.ErrShape},
		{mount.Limits{Low: -4, High: 4, Fast: -1}, api.ErrShape},
		{mount.Limits{}, api.ErrShape},
		{mount.Limits{Low: math.MaxInt, High: math.MinInt, Fast: 1}, api.ErrShape},
		{mount.Limits{Low: -4, High: 4, Fast: math.MinInt}, api.ErrShape},
		{mount.Limits{Low: -4, High: 4, Fast: 1, Home: math.MaxInt}, api.ErrShape},
		{mount.Limits{Low: -4, High: 4, Fast: 1, Home: math.MinInt}, api.ErrShape},
		{mount.Limits{Low: -great - 1, High: 4, Fast: 1}, api.ErrBound},
		{mount.Limits{Low: -4, High: great + 1, Fast: 1}, api.ErrBound},
		{mount.Limits{Low: -4, High: 4, Fast: great + 1}, api.ErrBound},
		{mount.Limits{Low: great + 1, High: great + 1, Fast: 1, Home: great + 1}, api.ErrBound},
		{mount.Limits{Low: -great - 1, High: -great - 1, Fast: 1, Home: -great - 1}, api.ErrBound},
		{mount.Limits{Low: math.MinInt, High: math.MaxInt, Fast: 1}, api.ErrBound},
		{mount.Limits{Low: math.MinInt, High: 4, Fast: 1}, api.ErrBound},
		{mount.Limits{Low: -4, High: math.MaxInt, Fast: 1}, api.ErrBound},
		{mount.Limits{Low: -4, High: 4, Fast: math.MaxInt}, api.ErrBound},
	} {
		wrongNew(t, c.l, plainLimits, 5, c.want)
		wrongNew(t, plainLimits, c.l, 5, c.want)
		wrongNew(t, c.l, c.l, 5, c.want)
	}
}

// P90: patience that is wrong.
func TestNewWrongPatience(t *testing.T) {
	for _, n := range []int{0, -1, -great - 1, math.MinInt} {
		wrongNew(t, plainLimits, plainLimits, n, api.ErrShape)
	}
	for _, n := range []int{great + 1, math.MaxInt} {
		wrongNew(t, plainLimits, plainLimits, n, api.ErrBound)
	}
}

// P90, P3: a wrong shape is told ahead of what is too great, wherever the two are.
func TestNewShapeFirst(t *testing.T) {
	far := mount.Limits{High: great + 1, Fast: 1}
	bent := mount.Limits{High: 4, Home: 5, Fast: 1}
	wrongNew(t, mount.Limits{High: great + 1}, plainLimits, 5, api.ErrShape)
	wrongNew(t, far, bent, 5, api.ErrShape)
	wrongNew(t, bent, far, 5, api.ErrShape)
	wrongNew(t, far, plainLimits, 0, api.ErrShape)
	wrongNew(t, plainLimits, far, 0, api.ErrShape)
	wrongNew(t, bent, plainLimits, great+1, api.ErrShape)
	wrongNew(t, plainLimits, bent, great+1, api.ErrShape)
}
