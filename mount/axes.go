package mount

// greatest: how great a number of New may be in size.
const greatest = 1 << 40

// axis: the goal counts while it slews or is being parked, the pace while it tracks.
type axis struct {
	Limits
	at, goal, pace int
}

// within: n is most or less in size. (The size of the least int is none.)
func within(n, most int) bool { return -most <= n && n <= most }

// shaped: a Low above High leaves no place for Home.
func (l Limits) shaped() bool { return l.reach(l.Home) && l.Fast >= 1 }

func (l Limits) bounded() bool {
	for _, n := range [...]int{l.Low, l.High, l.Fast, l.Home} {
		if !within(n, greatest) {
			return false
		}
	}
	return true
}

// reach: may the axis stand there?
func (l Limits) reach(at int) bool { return l.Low <= at && at <= l.High }

func parked(l Limits) axis { return axis{Limits: l, at: l.Home} }

// approach the goal by a tick; whether it is there.
func (x *axis) approach() bool {
	x.at += max(-x.Fast, min(x.goal-x.at, x.Fast))
	return x.at == x.goal
}

// next: where it stands a tick later if it tracks.
func (x *axis) next() int { return x.at + x.pace }
