package sky

import (
	"meridian/api"
	"meridian/bits"
)

// valid: a chain that can be gone along.
func valid(l []Step) error {
	if len(l) > api.MaxList {
		return api.ErrBound
	}
	for _, s := range l {
		if s.Axis < 0 || s.Axis > 2 {
			return api.ErrShape
		}
	}
	return nil
}

// by an angle: what turns a pair of coordinates by it, from the first one to the
// second one.
func by(angle int) func(a, b float64) (float64, float64) {
	c, s := bits.Cos(angle), bits.Sin(angle)
	return func(a, b float64) (float64, float64) {
		return float64(a*c) - float64(b*s), float64(a*s) + float64(b*c)
	}
}

// about an axis: the two coordinates that come behind it, all around, are turned.
func about(axis int, v api.Vec, turn func(a, b float64) (float64, float64)) api.Vec {
	switch axis {
	case 0:
		v.Y, v.Z = turn(v.Y, v.Z)
	case 1:
		v.Z, v.X = turn(v.Z, v.X)
	default:
		v.X, v.Y = turn(v.X, v.Y)
	}
	return v
}
