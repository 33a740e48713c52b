package move

import "meridian/api"

// meeting of two bodies: at which step, which ones, and how far apart, squared.
type meeting struct{ at, a, b, far int }

func copied(l []Body) []Body {
	return append([]Body(nil), l...)
}

// inLimits: no body is too far out, and none too fast.
func inLimits(l []Body) bool {
	for _, b := range l {
		if !within(b.At, api.MaxPlace) || !within(b.Speed, api.MaxSpeed) {
			return false
		}
	}
	return true
}

// between: the difference from one body to another.
func between(from, to Body) api.Cell {
	return gain(to.At, -1, from.At)
}

// step there (a way of 1) or back (-1). One undoes the other, as a kick moves no body,
// and the pull hangs on nothing but where they are. Of bodies within their limits, no
// number of a step comes near what an int holds, be they thrown as far as can be.
func step(l []Body, way int) {
	kick(l, way)
	drift(l, way)
	kick(l, way)
}

// kick: a body's pull along the difference to itself is 0.
func kick(l []Body, way int) {
	for a := range l {
		for _, other := range l {
			l[a].Speed = gain(l[a].Speed, way*other.Mass, Pull(between(l[a], other)))
		}
	}
}

func drift(l []Body, way int) {
	for i := range l {
		l[i].At = gain(l[i].At, way, l[i].Speed)
	}
}

// nearer: the best meeting so far, or a nearer one that these bodies have at a step.
func nearer(best meeting, at int, l []Body) meeting {
	for a := range l {
		for b := a + 1; b < len(l); b++ {
			far := square(between(l[a], l[b]))
			if far < best.far {
				best = meeting{at: at, a: a, b: b, far: far}
			}
		}
	}
	return best
}

// weighed: something of all bodies, each as often as its mass says, together.
func weighed(l []Body, of func(Body) api.Cell) api.Cell {
	sum := api.Cell{}
	if Valid(l) != nil {
		return sum
	}
	for _, b := range l {
		sum = gain(sum, b.Mass, of(b))
	}
	return sum
}
