package shift

import (
	"cmp"
	"slices"

	"meridian/api"
)

const greatest = 1 << 20 // a row's number, in size

func isTooGreat(n int) bool { return n < -greatest || n > greatest }

// wrongRows tells what is wrong with two rows that should go together.
func wrongRows(a, b []int) error {
	if len(a) > longest || len(b) > longest {
		return api.ErrBound
	}
	if len(a) == 0 || len(a) != len(b) {
		return api.ErrShape
	}
	if slices.ContainsFunc(a, isTooGreat) || slices.ContainsFunc(b, isTooGreat) {
		return api.ErrBound
	}
	return nil
}

// firstGreatest of a list without NaNs: its number.
func firstGreatest[N cmp.Ordered](l []N) int {
	best := 0
	for i, x := range l {
		if x > l[best] {
			best = i
		}
	}
	return best
}

// guessed are the sums of Cross, but for rounding, of rows of a power of 2.
func guessed(a, b []int) []float64 {
	waves, others := fastWaves(asWaves(a), false), fastWaves(asWaves(b), false)
	for k, x := range waves {
		waves[k] = product(complex(real(x), -imag(x)), others[k])
	}
	sums := make([]float64, len(waves))
	for s, x := range fastWaves(waves, true) {
		sums[s] = real(x)
	}
	return sums
}

func asWaves(l []int) []complex128 {
	waves := make([]complex128, len(l))
	for i, n := range l {
		waves[i] = complex(float64(n), 0)
	}
	return waves
}
