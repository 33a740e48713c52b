package mount_test

import (
	"math"
	"math/rand"
	"testing"

	"meridian/api"
	"meridian/mount"
)

const great = 1 << 40

// told is the document's words, with all that was ever taken.
type told struct {
	a, b     mount.Limits
	patience int
	x, y     int
	state    int
	toX, toY int
	byX, byY int
	taken    []mount.Command
	errs     []error
	ticks    int // all of them
	since    int // how many of them had gone by when the last one was taken
}

func toldNew(a, b mount.Limits, patience int) *told {
	return &told{a: a, b: b, patience: patience, x: a.Home, y: b.Home, state: api.Parked}
}

func (w *told) take(c mount.Command) mount.Reply {
	var err error
	n := len(w.taken)
	switch {
	case n > 0 && w.taken[n-1].Number == c.Number:
		err = w.errs[n-1]
	case n > 0 && w.taken[n-1].Number > c.Number:
		err = api.ErrState
	default:
		err = w.done(c)
		w.taken, w.errs, w.since = append(w.taken, c), append(w.errs, err), w.ticks
	}
	return mount.Reply{Number: c.Number, Err: err, A: w.x, B: w.y, State: w.state}
}

func (w *told) done(c mount.Command) error {
	switch c.Kind {
	case "slew":
		if c.A < w.a.Low || c.A > w.a.High || c.B < w.b.Low || c.B > w.b.High {
			return api.ErrLimit
		}
		if w.state == api.Parking {
			return api.ErrState
		}
		w.state, w.toX, w.toY = api.Slewing, c.A, c.B
	case "track":
		if c.A < -w.a.Fast || c.A > w.a.Fast || c.B < -w.b.Fast || c.B > w.b.Fast {
			return api.ErrLimit
		}
		if w.state == api.Parked || w.state == api.Parking {
			return api.ErrState
		}
		w.state, w.byX, w.byY = api.Tracking, c.A, c.B
	case "stop":
		if w.state == api.Parked {
			return api.ErrState
		}
		w.state = api.Stopped
	case "park":
		if w.state != api.Parked {
			w.state = api.Parking
		}
	case "hello":
	default:
		return api.ErrName
	}
	return nil
}

// towards: where one that stands at x is a tick later on its way.
func towards(x, to, fast int) int {
	switch {
	case to-x > fast:
		return x + fast
	case x-to > fast:
		return x - fast
	}
	return to
}

func (w *told) tick() {
	w.ticks++
	switch w.state {
	case api.Slewing:
		w.x, w.y = towards(w.x, w.toX, w.a.Fast), towards(w.y, w.toY, w.b.Fast)
		if w.x == w.toX && w.y == w.toY {
			w.state = api.Idle
		}
	case api.Parking:
		w.x, w.y = towards(w.x, w.a.Home, w.a.Fast), towards(w.y, w.b.Home, w.b.Fast)
		if w.x == w.a.Home && w.y == w.b.Home {
			w.state = api.Parked
		}
	case api.Tracking:
		x, y := w.x+w.byX, w.y+w.byY
		if x < w.a.Low || x > w.a.High || y < w.b.Low || y > w.b.High {
			w.state = api.Stopped
		} else {
			w.x, w.y = x, y
		}
	}
	if w.ticks-w.since >= w.patience && w.state != api.Parked && w.state != api.Parking {
		w.state = api.Parking
	}
}

// pair: a mount, and the document's words about it.
type pair struct {
	m *mount.Mount
	w *told
}

func opened(t *testing.T, a, b mount.Limits, patience int) pair {
	t.Helper()
	m, err := mount.New(a, b, patience)
	if err != nil {
		t.Fatalf("%+v, %+v, %d: %v", a, b, patience, err)
	}
	return pair{m, toldNew(a, b, patience)}
}

func (p pair) stands(t *testing.T) {
	t.Helper()
	if a, b := p.m.At(); a != p.w.x || b != p.w.y || p.m.State() != p.w.state {
		t.Fatalf("behind %d ticks and %v: at %d, %d, in state %d; want %d, %d, %d",
			p.w.ticks, p.w.taken, a, b, p.m.State(), p.w.x, p.w.y, p.w.state)
	}
}

func (p pair) take(t *testing.T, c mount.Command) mount.Reply {
	t.Helper()
	r := p.m.Take(c)
	if want := p.w.take(c); r != want {
		t.Fatalf("behind %d ticks and %v: %+v: %+v; want %+v", p.w.ticks, p.w.taken, c, r, want)
	}
	p.stands(t)
	return r
}

func (p pair) tick(t *testing.T) {
	t.Helper()
	a, b := p.m.Tick()
	p.w.tick()
	if a != p.w.x || b != p.w.y {
		t.Fatalf("tick %d behind %v: %d, %d; want %d, %d", p.w.ticks, p.w.taken, a, b, p.w.x, p.w.y)
	}
	p.stands(t)
}

// someLimits: a Low, a High and a Home that are often the same, at most size from 0.
func someLimits(r *rand.Rand, size int) mount.Limits {
	low := r.Intn(2*size+1) - size
	high := low + r.Intn(size-low+1)
	home := low + r.Intn(high-low+1)
	switch r.Intn(4) {
	case 0:
		home = low
	case 1:
		home = high
	}
	return mount.Limits{Low: low, High: high, Fast: 1 + r.Intn(size), Home: home}
}

// near a number, or as far as numbers go.
func near(r *rand.Rand, n int) int {
	switch r.Intn(40) {
	case 0:
		return math.MinInt
	case 1:
		return math.MaxInt
	case 2, 3, 4:
		return n + r.Intn(3) - 1
	}
	return n
}

func between(r *rand.Rand, low, high int) int { return low + r.Intn(high-low+1) }

func someKind(r *rand.Rand) string {
	kinds := []string{"slew", "slew", "slew", "slew", "track", "track", "track", "track", "stop", "park", "hello", "", "Stop", "stop ", "jump"}
	return kinds[r.Intn(len(kinds))]
}

// someCommand to the mount: mostly one that its limits allow.
func (p pair) someCommand(r *rand.Rand, number int) mount.Command {
	c := mount.Command{Number: number, Kind: someKind(r)}
	if c.Kind == "track" {
		c.A = near(r, between(r, -p.w.a.Fast, p.w.a.Fast))
		c.B = near(r, between(r, -p.w.b.Fast, p.w.b.Fast))
	} else {
		c.A = near(r, between(r, p.w.a.Low, p.w.a.High))
		c.B = near(r, between(r, p.w.b.Low, p.w.b.High))
	}
	return c
}
