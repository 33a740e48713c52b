package vectors_test

import (
	"math"
	"testing"

	"meridian/api"
	"meridian/bits"
	"meridian/vectors"
)

var minusZero = math.Copysign(0, -1)

func need(t *testing.T, what string, got, want api.Vec) {
	t.Helper()
	if !bits.Same(got.X, want.X) || !bits.Same(got.Y, want.Y) || !bits.Same(got.Z, want.Z) {
		t.Errorf("%s: %x, want %x", what, got, want)
	}
}

// Sums go from the first one on, and round each time.
func TestSum(t *testing.T) {
	v, w := api.Vec{X: 1, Y: 2, Z: 3}, api.Vec{X: 10, Y: -20, Z: 0.5}
	need(t, "one", vectors.Sum(v), v)
	need(t, "two", vectors.Sum(v, w), api.Vec{X: 11, Y: -18, Z: 3.5})
	need(t, "three", vectors.Sum(api.Vec{X: 1e300, Y: 1, Z: 1e300}, api.Vec{X: 1, Y: 1e300, Z: -1e300}, api.Vec{X: -1e300, Y: -1e300, Z: 1}), api.Vec{Z: 1})
	zero := api.Vec{X: minusZero, Y: minusZero, Z: minusZero}
	need(t, "-0", vectors.Sum(zero), zero)
	need(t, "-0 and -0", vectors.Sum(zero, zero, zero), zero)
	need(t, "-0 and 0", vectors.Sum(zero, api.Vec{}), api.Vec{})
}

// Multiples.
func TestTimes(t *testing.T) {
	need(t, "3", vectors.Times(3, api.Vec{X: 1, Y: -2, Z: minusZero}), api.Vec{X: 3, Y: -6, Z: minusZero})
	need(t, "-1", vectors.Times(-1, api.Vec{X: 0, Y: math.Inf(1), Z: math.NaN()}), api.Vec{X: minusZero, Y: math.Inf(-1), Z: math.NaN()})
}

// Products: of the axes, and of others, each operation rounded.
func TestProducts(t *testing.T) {
	x, y, z := api.Vec{X: 1}, api.Vec{Y: 1}, api.Vec{Z: 1}
	need(t, "x, y", vectors.Cross(x, y), z)
	need(t, "y, z", vectors.Cross(y, z), x)
	need(t, "z, x", vectors.Cross(z, x), y)
	need(t, "y, x", vectors.Cross(y, x), api.Vec{Z: -1})
	v, w := api.Vec{X: 1, Y: 2, Z: 3}, api.Vec{X: -7, Y: 11, Z: 0.5}
	need(t, "v, w", vectors.Cross(v, w), api.Vec{X: -32, Y: -21.5, Z: 25})
	if got := vectors.Dot(v, w); got != 16.5 {
		t.Error(got)
	}
	// 1 + 2^-52 squared has no room in a number: what it is too long by is lost.
	long := 1 + 0x1p-52
	if got := vectors.Dot(api.Vec{X: long, Y: 1}, api.Vec{X: long, Y: -(1 + 0x1p-51)}); got != 0 {
		t.Error(got)
	}
	need(t, "long", vectors.Cross(api.Vec{Y: long, Z: 1}, api.Vec{Y: 1 + 0x1p-51, Z: long}), api.Vec{})
}

// Vectors of numbers, and others.
func TestFinite(t *testing.T) {
	for _, x := range []float64{0, minusZero, 1, math.MaxFloat64, -math.MaxFloat64, 0x1p-1074} {
		if !vectors.Finite(api.Vec{X: x, Y: x, Z: x}) {
			t.Error(x)
		}
	}
	for _, x := range []float64{math.NaN(), math.Inf(1), math.Inf(-1)} {
		for _, v := range []api.Vec{{X: x}, {Y: x}, {Z: x}, {X: x, Y: x, Z: x}} {
			if vectors.Finite(v) {
				t.Error(v)
			}
		}
	}
}
