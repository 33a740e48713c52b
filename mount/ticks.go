package mount

import "meridian/api"

// approach the goals by a tick; once both axes are there, it is in the state then.
func (m *Mount) approach(then int) {
	there := 0
	for i := range m.axes {
		if m.axes[i].approach() {
			there++
		}
	}
	if there == len(m.axes) {
		m.state = then
	}
}

// follow the paces by a tick. Both axes are asked ahead of any step, as neither goes
// if one may not.
func (m *Mount) follow() {
	for _, x := range m.axes {
		if !x.reach(x.next()) {
			m.state = api.Stopped
			return
		}
	}
	for i := range m.axes {
		m.axes[i].at = m.axes[i].next()
	}
}

// watch how long no command was taken. The tick has gone by, so that the way home
// begins with the next one.
func (m *Mount) watch() {
	if m.left > 0 {
		m.left--
	}
	if m.left == 0 {
		m.park()
	}
}
