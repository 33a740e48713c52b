package light_test

import (
	"math"
	"math/big"
	"math/rand"
	"testing"

	"meridian/api"
	"meridian/light"
)

const brightest = 1 << 40

func raised(n, to int) *big.Int {
	return new(big.Int).Exp(big.NewInt(int64(n)), big.NewInt(int64(to)), nil)
}

// atLeast: 10 to the power of -n/250 is at least light/zero; both to the power of 250.
func atLeast(n, light, zero int) bool {
	left, right := raised(zero, 250), raised(light, 250)
	if n < 0 {
		left.Mul(left, raised(10, -n))
	} else {
		right.Mul(right, raised(10, n))
	}
	return left.Cmp(right) >= 0
}

func needMagnitude(t *testing.T, l, zero int) {
	t.Helper()
	n, err := light.Magnitude(l, zero)
	if err != nil || !atLeast(n, l, zero) || atLeast(n+1, l, zero) {
		t.Fatalf("Magnitude(%d, %d) = %d, %v", l, zero, n, err)
	}
}

// P122: magnitudes, written out.
func TestKnownMagnitudes(t *testing.T) {
	for _, k := range [][3]int{
		{1, 1, 0}, {1, 100, 500}, {100, 1, -500}, {10, 1, -250}, {1, 10, 250}, {1000000, 1, -1500}, {1, 1000000, 1500},
		{77, 77, 0}, {brightest, brightest, 0}, {brightest, 1, -3011}, {1, brightest, 3010},
		{3, 7, 91}, {7, 3, -92}, {65535, 1, -1205}, {1, 65535, 1204}, {123456, 654321, 181},
		{999999999999, 1000000000000, 0}, {1000000000000, 999999999999, -1},
		{brightest, brightest - 1, -1}, {brightest - 1, brightest, 0},
		{brightest / 2, brightest, 75}, {brightest, brightest / 2, -76},
		{251188643151, 100000000000, -101}, {100000000000, 251188643151, 100},
		{251188643150, 100000000000, -100}, {100000000000, 251188643150, 99},
		{1009253, 1000000, -2}, {1009252, 1000000, -1}, {1000000, 1009252, 0}, {1000000, 1009253, 1},
	} {
		if n, err := light.Magnitude(k[0], k[1]); err != nil || n != k[2] {
			t.Errorf("Magnitude(%d, %d) = %d, %v, want %d", k[0], k[1], n, err, k[2])
		}
	}
}

// P122: powers of 10, which are a whole number of magnitudes, and what is next to them.
func TestMagnitudeOfTens(t *testing.T) {
	for a, l := 0, 1; a <= 12; a, l = a+1, l*10 {
		for b, zero := 0, 1; b <= 12; b, zero = b+1, zero*10 {
			if n, err := light.Magnitude(l, zero); err != nil || n != 250*(b-a) {
				t.Errorf("Magnitude(%d, %d) = %d, %v", l, zero, n, err)
			}
			needMagnitude(t, l+1, zero)
			needMagnitude(t, l, zero+1)
			needMagnitude(t, max(l-1, 1), zero)
			needMagnitude(t, l, max(zero-1, 1))
		}
	}
}

// P122: fractions that are as near as any to where a magnitude ends, on both sides.
func TestMagnitudeNearEdges(t *testing.T) {
	for n := 1; n < 250; n += 4 {
		// Between two fractions lies that of their sums: which side of the edge is it on?
		low, high := [2]int{1, 1}, [2]int{10, 1}
		for {
			middle := [2]int{low[0] + high[0], low[1] + high[1]}
			if middle[0] > brightest {
				break
			}
			if atLeast(n, middle[1], middle[0]) {
				high = middle
			} else {
				low = middle
			}
		}
		for _, c := range [][3]int{{high[1], high[0], n}, {low[1], low[0], n - 1}, {low[0], low[1], -n}, {high[0], high[1], -n - 1}} {
			if m, err := light.Magnitude(c[0], c[1]); err != nil || m != c[2] {
				t.Errorf("Magnitude(%d, %d) = %d, %v, want %d", c[0], c[1], m, err, c[2])
			}
		}
	}
}

// P122: lights of all sizes.
func TestMagnitude(t *testing.T) {
	dice := rand.New(rand.NewSource(122))
	any := func() int { return 1 + dice.Intn(1<<(1+dice.Intn(40))) }
	for range 1000 {
		l, zero := any(), any()
		needMagnitude(t, l, zero)
		needMagnitude(t, l, max(1, min(l+dice.Intn(5)-2, brightest)))
	}
}

// P122: lights that are none.
func TestMagnitudeWrong(t *testing.T) {
	for _, n := range []int{math.MinInt, -brightest, -1, 0, brightest + 1, math.MaxInt} {
		for _, c := range [][2]int{{n, 1}, {1, n}, {n, n}, {brightest, n}, {n, brightest}} {
			if m, err := light.Magnitude(c[0], c[1]); err != api.ErrShape || m != 0 {
				t.Errorf("Magnitude(%d, %d) = %d, %v", c[0], c[1], m, err)
			}
		}
	}
}
