package digits_test

import (
	"fmt"
	"math"
	"testing"

	"meridian/digits"
)

func TestOf(t *testing.T) {
	for _, n := range []int{0, 1, 9, 10, 99, 100, 123456, 999999, 1000000, math.MaxInt} {
		for _, many := range []int{-1, 0, 1, 2, 4, 6, 20} {
			if got, want := digits.Of(n, many), fmt.Sprintf("%0*d", max(many, 1), n); got != want {
				t.Errorf("Of(%d, %d) = %q, want %q", n, many, got, want)
			}
		}
	}
}
