package bits_test

import (
	"math"
	"math/big"
	"testing"

	"meridian/api"
	"meridian/bits"
)

// P33: roots, held against roots of long numbers.
func TestRoot(t *testing.T) {
	for _, x := range numbers() {
		want := math.NaN()
		switch {
		case x == 0 || math.IsInf(x, 1):
			want = x
		case x > 0:
			want, _ = new(big.Float).SetPrec(300).Sqrt(new(big.Float).SetPrec(300).SetFloat64(x)).Float64()
		}
		if got := bits.Root(x); !bits.Same(got, want) {
			t.Errorf("Root(%x) = %x, want %x", x, got, want)
		}
	}
	for _, x := range append([]float64{-1, -0x1p-1074, math.Inf(-1)}, noNumbers...) {
		if got := bits.Root(x); got == got {
			t.Errorf("Root(%x) = %x, want NaN", x, got)
		}
	}
	if got := bits.Root(minusZero); !bits.Same(got, minusZero) {
		t.Errorf("Root(-0) = %x", got)
	}
}

// P33: lengths: each operation is rounded, in its order, too great and too small
// ones as well.
func TestLength(t *testing.T) {
	for _, c := range []struct {
		v    api.Vec
		want float64
	}{
		{api.Vec{}, 0},
		{api.Vec{X: minusZero, Y: minusZero, Z: minusZero}, 0},
		{api.Vec{X: 2, Y: 3, Z: 6}, 7},
		{api.Vec{X: -2, Y: 3, Z: -6}, 7},
		{api.Vec{X: 0x1p-27, Y: 0x1p-27, Z: 1}, 1},
		{api.Vec{X: 1e200}, math.Inf(1)},
		{api.Vec{Z: 1e-200}, 0},
		{api.Vec{X: math.Inf(-1), Y: 1}, math.Inf(1)},
		{api.Vec{X: math.Inf(1), Y: math.NaN()}, math.NaN()},
		{api.Vec{Z: math.NaN()}, math.NaN()},
	} {
		if got := bits.Length(c.v); !bits.Same(got, c.want) {
			t.Errorf("Length(%x) = %x, want %x", c.v, got, c.want)
		}
	}
	for i := range 3000 {
		v := api.Vec{X: bits.Sin(i * 987654321), Y: bits.Cos(i * 12345678912), Z: bits.Sin(i*98765432198 + 5)}
		square := func(x float64) *big.Float { return times(number(x), number(x)) }
		want, _ := new(big.Float).SetPrec(53).Sqrt(plus(plus(square(v.X), square(v.Y)), square(v.Z))).Float64()
		if got := bits.Length(v); !bits.Same(got, want) {
			t.Errorf("Length(%x) = %x, want %x", v, got, want)
		}
	}
}

// P34: points that have no angle.
func TestNoAngle(t *testing.T) {
	up, down := math.Inf(1), math.Inf(-1)
	for _, x := range append([]float64{up, down}, noNumbers...) {
		for _, y := range []float64{0, minusZero, 1, -1, up, down, math.NaN()} {
			needNoAngle(t, y, x)
			needNoAngle(t, x, y)
		}
	}
	for _, y := range []float64{0, minusZero} {
		needNoAngle(t, y, 0)
		needNoAngle(t, y, minusZero)
	}
}

func needNoAngle(t *testing.T, y, x float64) {
	t.Helper()
	if a, ok := bits.Angle(y, x); ok || a != 0 {
		t.Errorf("Angle(%x, %x) = %d, %v, want none", y, x, a, ok)
	}
}

// P34: angles along the axes: -0 counts as 0.
func TestAngleAxes(t *testing.T) {
	for _, size := range []float64{1, 1e-300, 3, 1e300, math.MaxFloat64} {
		for _, zero := range []float64{0, minusZero} {
			needAngle(t, zero, size, 0)
			needAngle(t, size, zero, api.Turn/4)
			needAngle(t, zero, -size, api.Turn/2)
			needAngle(t, -size, zero, api.Turn/4*3)
		}
	}
}

func needAngle(t *testing.T, y, x float64, want int) {
	t.Helper()
	if a, ok := bits.Angle(y, x); !ok || a != want {
		t.Errorf("Angle(%x, %x) = %d, %v, want %d", y, x, a, ok, want)
	}
}

// P34: angles, written out, also of points so small that products lose their bits.
func TestKnownAngles(t *testing.T) {
	const great, least = math.MaxFloat64, 0x1p-1074
	for _, c := range []struct {
		y, x float64
		want int
	}{
		{1, 1, 161999999999},
		{1, -1, 486000000001},
		{-1, -1, 809999999999},
		{-1, 1, 1134000000001},
		{3, 4, 132731631525},
		{3, -4, 515268368475},
		{-3, -4, 780731631525},
		{-3, 4, 1163268368475},
		{0.1, 0.7, 29268368474},
		{1e-300, 1, 0},
		{-1e-300, 1, 0},
		{1e-300, -1, 648000000000},
		{-1e-300, -1, 648000000000},
		{1e-12, 1, 0},
		{5e-12, 1, 1},
		{-5e-12, 1, 1295999999999},
		{1, 1e-300, 323999999999},
		{1, 1e-12, 323999999999},
		{-1, 1e-12, 972000000001},
		{great, great, 161999999999},
		{great, least, 323999999999},
		{least, great, 0},
		{-least, great, 0},
		{0, least, 108000000000}, // half of the least number is rounded to 0
		{0, -least, 540000000000},
		{least, 0, 324000000000},
		{least, least, 215999999999},
		{-least, -least, 863999999999},
		{least, 2 * least, 174925360406},
		{3 * least, -2 * least, 432000000001},
		{great, -1, 324000000001},
		{-great, -great, 809999999999},
	} {
		needAngle(t, c.y, c.x, c.want)
	}
}

// P34: the angle that a point was made of, but for its rounding.
func TestAngleOfSines(t *testing.T) {
	for a := 0; a < api.Turn; a += api.Turn/4999 + 1 {
		b, ok := bits.Angle(bits.Sin(a)*7, bits.Cos(a)*7)
		if !ok || b < a-1 || b > a+1 {
			t.Errorf("Angle of the sines of %d = %d, %v", a, b, ok)
		}
	}
}

// P34: the search, step by step, with sines that are reckoned otherwise.
func TestAngleSteps(t *testing.T) {
	for i := range 150 {
		y, x := math.Ldexp(bits.Sin(i*i*7654321), i%40-20), bits.Cos(i*98765432109+3)
		low, high := 0, api.Turn/4+1
		for high-low > 1 {
			m := (low + high) / 2
			if s, c := sineAndCosine(m); s*math.Abs(x) <= c*math.Abs(y) {
				low = m
			} else {
				high = m
			}
		}
		want := low
		switch {
		case x < 0 && y < 0:
			want = api.Turn/2 + low
		case x < 0:
			want = api.Turn/2 - low
		case y < 0:
			want = (api.Turn - low) % api.Turn
		}
		needAngle(t, y, x, want)
	}
}
