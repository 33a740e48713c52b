package light

import (
	"math/big"
	"slices"

	"meridian/api"
	"meridian/spots"
)

const (
	widest    = 1 << 20 // how far Round looks, in 1/1024 pixels
	brightest = 1 << 40 // light whose magnitude is told
)

// parted: the counts of the pixels at most in from a star, and of those farther off, but
// at most out.
func parted(p api.Picture, at api.Star, in, out int) (disc, ring []int) {
	for i, count := range p.Counts {
		far := spots.Far(at, i%p.Wide, i/p.Wide)
		if far <= in*in {
			disc = append(disc, count)
		} else if far <= out*out {
			ring = append(ring, count)
		}
	}
	return disc, ring
}

// lowerMiddle of counts, which it sorts; 0, if there are none.
func lowerMiddle(counts []int) int {
	if len(counts) == 0 {
		return 0
	}
	slices.Sort(counts)
	return counts[(len(counts)-1)/2]
}

// A hundredth of a magnitude is a power of 10 with a 250th as its exponent: of 250th
// powers it is a whole one, and whole numbers tell exactly which ones are passed.

// tensDown: the greatest n for which 10 to the power of n is at most the 250th power of
// more over less. As 10 to the power of n is whole, the quotient may be rounded down.
func tensDown(more, less int) int {
	return digitsOf(new(big.Int).Quo(power250(more), power250(less))) - 1
}

// tensUp: the least n for which 10 to the power of n is at least the 250th power of more
// over less: above the greatest whole number that is less than that quotient.
func tensUp(more, less int) int {
	top := power250(more)
	top.Sub(top, big.NewInt(1))
	return digitsOf(top.Quo(top, power250(less)))
}

func power250(n int) *big.Int {
	return new(big.Int).Exp(big.NewInt(int64(n)), big.NewInt(250), nil)
}

func digitsOf(n *big.Int) int { return len(n.String()) }
