// Package vectors reckons with api.Vec, coordinate by coordinate.
//
// A product stands in float64(..) here, as in package bits: else Go may take it
// together with a sum, here or where it is called, on some machines.
package vectors

import (
	"math"

	"meridian/api"
)

// Sum from the first one on, one by one.
func Sum(first api.Vec, more ...api.Vec) api.Vec {
	for _, v := range more {
		first = api.Vec{X: first.X + v.X, Y: first.Y + v.Y, Z: first.Z + v.Z}
	}
	return first
}

// Times so much.
func Times(much float64, v api.Vec) api.Vec {
	return api.Vec{X: float64(much * v.X), Y: float64(much * v.Y), Z: float64(much * v.Z)}
}

// Cross product.
func Cross(v, w api.Vec) api.Vec {
	return api.Vec{
		X: float64(v.Y*w.Z) - float64(v.Z*w.Y),
		Y: float64(v.Z*w.X) - float64(v.X*w.Z),
		Z: float64(v.X*w.Y) - float64(v.Y*w.X),
	}
}

// Dot product.
func Dot(v, w api.Vec) float64 {
	return float64(v.X*w.X) + float64(v.Y*w.Y) + float64(v.Z*w.Z)
}

// Finite: no coordinate is NaN or infinite.
func Finite(v api.Vec) bool {
	return finite(v.X) && finite(v.Y) && finite(v.Z)
}

func finite(x float64) bool {
	return !math.IsNaN(x) && !math.IsInf(x, 0)
}
