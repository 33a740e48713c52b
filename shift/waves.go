package shift

import (
	"meridian/api"
	"meridian/bits"
)

const longest = 256 // numbers of a row

func isPowerOfTwo(n int) bool { return n > 0 && n&(n-1) == 0 }

// product of complex numbers. Go's own one may take a product of parts together with
// their sum on some machines; what stands in float64(..) is rounded by itself.
func product(x, y complex128) complex128 {
	a, b, c, d := real(x), imag(x), real(y), imag(y)
	return complex(float64(a*c)-float64(b*d), float64(a*d)+float64(b*c))
}

// turnsOf the first many of n parts of a turn, clockwise; back: the other way round.
func turnsOf(n, many int, back bool) []complex128 {
	turns := make([]complex128, many)
	for k := range turns {
		g := api.Turn * k / n
		if back {
			turns[k] = complex(bits.Cos(g), bits.Sin(g))
		} else {
			turns[k] = complex(bits.Cos(g), -bits.Sin(g))
		}
	}
	return turns
}

// fastWaves of a row of a power of 2.
func fastWaves(l []complex128, back bool) []complex128 {
	waves := halved(l, back)
	if back {
		divide(waves)
	}
	return waves
}

// halved: the waves of a row by those of its halves, not yet divided by how many there are.
func halved(l []complex128, back bool) []complex128 {
	n := len(l)
	if n == 1 {
		return []complex128{l[0]}
	}
	even, odd := make([]complex128, n/2), make([]complex128, n/2)
	for k := range even {
		even[k], odd[k] = l[2*k], l[2*k+1]
	}
	even, odd = halved(even, back), halved(odd, back)
	waves := make([]complex128, n)
	for k, turn := range turnsOf(n, n/2, back) {
		t := product(odd[k], turn)
		waves[k], waves[k+n/2] = even[k]+t, even[k]-t
	}
	return waves
}

// divide the parts of waves by how many waves there are. (A quotient of complex numbers
// would go another way where a part is infinite.)
func divide(waves []complex128) {
	n := float64(len(waves))
	for k, x := range waves {
		waves[k] = complex(real(x)/n, imag(x)/n)
	}
}
