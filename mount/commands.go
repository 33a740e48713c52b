package mount

import "meridian/api"

// taking: what came of a command that was taken, for those who ask again.
type taking struct {
	number int
	err    error
}

func (m *Mount) reply(number int, err error) Reply {
	a, b := m.At()
	return Reply{Number: number, Err: err, A: a, B: b, State: m.state}
}

func (m *Mount) do(c Command) error {
	switch c.Kind {
	case "slew":
		return m.slew([2]int{c.A, c.B})
	case "track":
		return m.track([2]int{c.A, c.B})
	case "stop":
		return m.stop()
	case "park":
		m.park()
		return nil
	case "hello":
		return nil
	}
	return api.ErrName
}

func (m *Mount) slew(to [2]int) error {
	for i, x := range m.axes {
		if !x.reach(to[i]) {
			return api.ErrLimit
		}
	}
	if m.state == api.Parking {
		return api.ErrState
	}
	for i := range m.axes {
		m.axes[i].goal = to[i]
	}
	m.state = api.Slewing
	return nil
}

func (m *Mount) track(by [2]int) error {
	for i, x := range m.axes {
		if !within(by[i], x.Fast) {
			return api.ErrLimit
		}
	}
	if m.state == api.Parked || m.state == api.Parking {
		return api.ErrState
	}
	for i := range m.axes {
		m.axes[i].pace = by[i]
	}
	m.state = api.Tracking
	return nil
}

func (m *Mount) stop() error {
	if m.state == api.Parked {
		return api.ErrState
	}
	m.state = api.Stopped
	return nil
}

// park changes nothing of one that is parked, or on its way there.
func (m *Mount) park() {
	if m.state == api.Parked {
		return
	}
	for i := range m.axes {
		m.axes[i].goal = m.axes[i].Home
	}
	m.state = api.Parking
}
