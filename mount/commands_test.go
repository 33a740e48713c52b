package mount_test

import (
	"math"
	"math/rand"
	"testing"

	"meridian/api"
	"meridian/mount"
)

var left = mount.Limits{Low: -6, High: 10, Fast: 3, Home: 2}
var right = mount.Limits{Low: 0, High: 40, Fast: 8, Home: 40}

// inState: a mount of left and right, on its way or not, as it comes there. A command's
// number there is 10 at most.
func inState(t *testing.T, state int) *mount.Mount {
	t.Helper()
	m, err := mount.New(left, right, 1000)
	if err != nil {
		t.Fatal(err)
	}
	if state != api.Parked {
		m.Take(mount.Command{Number: 1, Kind: "slew", A: 9, B: 20})
		m.Tick()
	}
	switch state {
	case api.Idle:
		m.Tick()
		m.Tick()
	case api.Tracking:
		m.Take(mount.Command{Number: 2, Kind: "track", A: -1, B: 2})
	case api.Parking:
		m.Take(mount.Command{Number: 2, Kind: "park"})
	case api.Stopped:
		m.Take(mount.Command{Number: 2, Kind: "stop"})
	}
	if m.State() != state {
		t.Fatalf("in state %d, want %d", m.State(), state)
	}
	return m
}

// P91: each kind in each state.
func TestTakeKnown(t *testing.T) {
	all := []int{api.Idle, api.Slewing, api.Tracking, api.Parking, api.Parked, api.Stopped}
	stay := map[int]int{}
	for _, s := range all {
		stay[s] = s
	}
	for _, c := range []struct {
		kind string
		a, b int
		errs map[int]error // by the state: nil where it is none of them
		then map[int]int   // where there is no error
	}{
		{"slew", 3, 3, map[int]error{api.Parking: api.ErrState}, to(all, api.Slewing)},
		{"slew", -6, 0, map[int]error{api.Parking: api.ErrState}, to(all, api.Slewing)},
		{"slew", 10, 40, map[int]error{api.Parking: api.ErrState}, to(all, api.Slewing)},
		{"slew", -7, 0, always(all, api.ErrLimit), nil},
		{"slew", 11, 0, always(all, api.ErrLimit), nil},
		{"slew", 0, -1, always(all, api.ErrLimit), nil},
		{"slew", 0, 41, always(all, api.ErrLimit), nil},
		{"slew", math.MinInt, 0, always(all, api.ErrLimit), nil},
		{"slew", 0, math.MaxInt, always(all, api.ErrLimit), nil},
		{"track", 0, 0, map[int]error{api.Parked: api.ErrState, api.Parking: api.ErrState}, to(all, api.Tracking)},
		{"track", 3, -8, map[int]error{api.Parked: api.ErrState, api.Parking: api.ErrState}, to(all, api.Tracking)},
		{"track", -3, 8, map[int]error{api.Parked: api.ErrState, api.Parking: api.ErrState}, to(all, api.Tracking)},
		{"track", 4, 0, always(all, api.ErrLimit), nil},
		{"track", -4, 0, always(all, api.ErrLimit), nil},
		{"track", 0, 9, always(all, api.ErrLimit), nil},
		{"track", 0, -9, always(all, api.ErrLimit), nil},
		{"track", math.MinInt, 0, always(all, api.ErrLimit), nil},
		{"track", 0, math.MinInt, always(all, api.ErrLimit), nil},
		{"track", math.MaxInt, math.MaxInt, always(all, api.ErrLimit), nil},
		{"stop", 0, 0, map[int]error{api.Parked: api.ErrState}, to(all, api.Stopped)},
		{"stop", 99, -99, map[int]error{api.Parked: api.ErrState}, to(all, api.Stopped)},
		{"park", 99, -99, nil, map[int]int{api.Idle: api.Parking, api.Slewing: api.Parking, api.Tracking: api.Parking, api.Parking: api.Parking, api.Parked: api.Parked, api.Stopped: api.Parking}},
		{"hello", 99, -99, nil, stay},
		{"", 0, 0, always(all, api.ErrName), nil},
		{"Slew", 3, 3, always(all, api.ErrName), nil},
		{"slew ", 3, 3, always(all, api.ErrName), nil},
		{"parked", 0, 0, always(all, api.ErrName), nil},
		{"\xff", 99, 99, always(all, api.ErrName), nil},
	} {
		for _, s := range all {
			m := inState(t, s)
			a, b := m.At()
			want := mount.Reply{Number: 11, Err: c.errs[s], A: a, B: b, State: s}
			if want.Err == nil {
				want.State = c.then[s]
			}
			if r := m.Take(mount.Command{Number: 11, Kind: c.kind, A: c.a, B: c.b}); r != want {
				t.Errorf("in state %d: %s %d %d: %+v; want %+v", s, c.kind, c.a, c.b, r, want)
			}
			if x, y := m.At(); x != a || y != b || m.State() != want.State {
				t.Errorf("in state %d: %s: stands at %d, %d, in state %d", s, c.kind, x, y, m.State())
			}
		}
	}
}

func to(all []int, state int) map[int]int {
	m := map[int]int{}
	for _, s := range all {
		m[s] = state
	}
	return m
}

func always(all []int, err error) map[int]error {
	m := map[int]error{}
	for _, s := range all {
		m[s] = err
	}
	return m
}

// P91: the first one is taken, whatever its number; so is any of a higher one.
func TestFirstNumber(t *testing.T) {
	for _, n := range []int{math.MinInt, -5, -1, 0, 1, 7, math.MaxInt} {
		p := opened(t, left, right, 1000)
		p.take(t, mount.Command{Number: n, Kind: "slew", A: 5, B: 39})
		if p.m.State() != api.Slewing {
			t.Errorf("%d is not taken", n)
		}
		if n < math.MaxInt {
			p.take(t, mount.Command{Number: n + 1, Kind: "stop"})
			p.take(t, mount.Command{Number: math.MaxInt, Kind: "park"})
		}
		p.take(t, mount.Command{Number: math.MaxInt, Kind: "hello"})
		p.take(t, mount.Command{Number: math.MinInt, Kind: "hello"})
	}
}

// P91: one that comes again answers what it did, and how the mount stands now.
func TestAgain(t *testing.T) {
	p := opened(t, left, right, 1000)
	c := mount.Command{Number: 3, Kind: "slew", A: 4, B: 30}
	if r := p.take(t, c); r != (mount.Reply{Number: 3, A: 2, B: 40, State: api.Slewing}) {
		t.Errorf("%+v", r)
	}
	p.tick(t)
	if r := p.take(t, c); r != (mount.Reply{Number: 3, A: 4, B: 32, State: api.Slewing}) {
		t.Errorf("%+v", r)
	}
	p.tick(t)
	if r := p.take(t, c); r != (mount.Reply{Number: 3, A: 4, B: 30, State: api.Idle}) {
		t.Errorf("%+v", r)
	}
	// Another command under the same number is not looked at.
	if r := p.take(t, mount.Command{Number: 3, Kind: "jump"}); r != (mount.Reply{Number: 3, A: 4, B: 30, State: api.Idle}) {
		t.Errorf("%+v", r)
	}
}

// P91: what comes again after an error has that error, though it could be done now; a
// lower number does not change which one was the last.
func TestAgainWithError(t *testing.T) {
	p := opened(t, left, right, 1000)
	track := mount.Command{Number: 20, Kind: "track", A: 1, B: -1}
	if r := p.take(t, track); r.Err != api.ErrState {
		t.Errorf("%+v", r)
	}
	p.take(t, mount.Command{Number: 21, Kind: "slew", A: 99})
	if r := p.take(t, track); r != (mount.Reply{Number: 20, Err: api.ErrState, A: 2, B: 40, State: api.Parked}) {
		t.Errorf("%+v", r)
	}
	if r := p.take(t, mount.Command{Number: 21, Kind: "hello"}); r.Err != api.ErrLimit {
		t.Errorf("%+v", r)
	}
	p.take(t, mount.Command{Number: 22, Kind: "jump"})
	if r := p.take(t, mount.Command{Number: 22, Kind: "slew", A: 3, B: 3}); r.Err != api.ErrName || r.State != api.Parked {
		t.Errorf("%+v", r)
	}
	if r := p.take(t, mount.Command{Number: 21, Kind: "jump"}); r.Err != api.ErrState {
		t.Errorf("%+v", r)
	}
	if r := p.take(t, mount.Command{Number: 22}); r.Err != api.ErrName {
		t.Errorf("%+v", r)
	}
}

// P91, P3: a command with an error leaves where the mount goes to, and how fast.
func TestErrorLeavesTheWay(t *testing.T) {
	p := opened(t, left, right, 1000)
	p.take(t, mount.Command{Number: 1, Kind: "slew", A: -6, B: 0})
	p.take(t, mount.Command{Number: 2, Kind: "slew", A: 9, B: 41})
	p.take(t, mount.Command{Number: 3, Kind: "slew", A: 11, B: 40})
	for range 5 {
		p.tick(t)
	}
	if a, b := p.m.At(); a != -6 || b != 0 || p.m.State() != api.Idle {
		t.Errorf("at %d, %d, in state %d", a, b, p.m.State())
	}
	p.take(t, mount.Command{Number: 4, Kind: "track", A: 1, B: 2})
	p.take(t, mount.Command{Number: 5, Kind: "track", A: 2, B: 9})
	p.take(t, mount.Command{Number: 6, Kind: "track", A: -4, B: 5})
	p.take(t, mount.Command{Number: 6, Kind: "track", A: 2, B: 5})
	p.take(t, mount.Command{Number: 5, Kind: "track", A: 3, B: 5})
	for range 3 {
		p.tick(t)
	}
	if a, b := p.m.At(); a != -3 || b != 6 || p.m.State() != api.Tracking {
		t.Errorf("at %d, %d, in state %d", a, b, p.m.State())
	}
	p.take(t, mount.Command{Number: 7, Kind: "park"})
	p.take(t, mount.Command{Number: 8, Kind: "slew", A: 0, B: 0})
	p.take(t, mount.Command{Number: 9, Kind: "track", A: 0, B: 0})
	for range 5 {
		p.tick(t)
	}
	if a, b := p.m.At(); a != 2 || b != 40 || p.m.State() != api.Parked {
		t.Errorf("at %d, %d, in state %d", a, b, p.m.State())
	}
}

// P2, P4: what one mount takes is nothing to another.
func TestApart(t *testing.T) {
	p, q := opened(t, left, right, 4), opened(t, left, right, 4)
	p.take(t, mount.Command{Number: 5, Kind: "slew", A: 5, B: 20})
	p.tick(t)
	q.stands(t)
	q.take(t, mount.Command{Number: 1, Kind: "slew", A: -5, B: 10})
	for range 9 {
		p.tick(t)
		q.tick(t)
	}
}

// P91, P92: commands of all kinds and numbers among ticks.
func TestTakeRandom(t *testing.T) {
	r := rand.New(rand.NewSource(91))
	for range 3000 {
		size := []int{1, 2, 5, 12, 300, great}[r.Intn(6)]
		p := opened(t, someLimits(r, size), someLimits(r, size), 1+r.Intn(12))
		number := r.Intn(9) - 4
		for range 80 {
			switch r.Intn(8) {
			case 0:
				p.take(t, p.someCommand(r, number-r.Intn(3)))
			case 1, 2:
				number += 1 + r.Intn(2)
				p.take(t, p.someCommand(r, number))
			default:
				p.tick(t)
			}
		}
	}
}
