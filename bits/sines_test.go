package bits_test

import (
	"math"
	"math/big"
	"math/rand"
	"testing"

	"meridian/api"
	"meridian/bits"
)

// angles: those at which something turns, and others of every size.
func angles() []int {
	l := []int{math.MinInt, math.MinInt + 1, math.MaxInt, math.MaxInt - 1, -api.MaxAngle, api.MaxAngle}
	for eighth := -17; eighth <= 17; eighth++ {
		for off := -3; off <= 3; off++ {
			l = append(l, eighth*(api.Turn/8)+off)
		}
	}
	dice := rand.New(rand.NewSource(34))
	for range 2000 {
		l = append(l, int(dice.Uint64())>>dice.Intn(64), dice.Intn(api.Turn))
	}
	return l
}

// number of 53 bits, to which each operation on it is rounded by itself. (None of
// those of the series is so small that it has fewer.)
func number(x float64) *big.Float { return new(big.Float).SetPrec(53).SetFloat64(x) }

func times(a, b *big.Float) *big.Float { return new(big.Float).SetPrec(53).Mul(a, b) }

func plus(a, b *big.Float) *big.Float { return new(big.Float).SetPrec(53).Add(a, b) }

// coefficient: the number nearest to 1 over a factorial, below 0 where k is odd.
func coefficient(k, of int64) *big.Float {
	x, _ := new(big.Rat).SetFrac(big.NewInt(1), new(big.Int).MulRange(1, of)).Float64()
	if k%2 == 1 {
		x = -x
	}
	return number(x)
}

// series: 1 + z * (c1 + z * (c2 + .. + z * c8)), its factorials shifted by odd.
func series(z *big.Float, odd int64) *big.Float {
	sum := coefficient(8, 16+odd)
	for k := int64(7); k > 0; k-- {
		sum = plus(coefficient(k, 2*k+odd), times(z, sum))
	}
	return plus(number(1), times(z, sum))
}

// sineAndCosine as they are told, step by step.
func sineAndCosine(a int) (float64, float64) {
	norm := new(big.Int).Mod(big.NewInt(int64(a)), big.NewInt(api.Turn)).Int64()
	q := (norm + api.Turn/8) / (api.Turn / 4)
	tau, _ := new(big.Rat).SetString("6.283185307179586476925286766559005768394338798750")
	rad, _ := tau.Quo(tau, big.NewRat(api.Turn, 1)).Float64()
	x := times(number(float64(norm-q*(api.Turn/4))), number(rad))
	s, _ := times(x, series(times(x, x), 1)).Float64()
	c, _ := series(times(x, x), 0).Float64()
	switch q % 4 {
	case 0:
		return s, c
	case 1:
		return c, -s
	case 2:
		return -s, -c
	}
	return -c, s
}

// P32: Sin and Cos, to the bit.
func TestSines(t *testing.T) {
	for _, a := range angles() {
		s, c := sineAndCosine(a)
		if got := bits.Sin(a); !bits.Same(got, s) {
			t.Errorf("Sin(%d) = %x, want %x", a, got, s)
		}
		if got := bits.Cos(a); !bits.Same(got, c) {
			t.Errorf("Cos(%d) = %x, want %x", a, got, c)
		}
	}
}

// P32: bits of sines, written out.
func TestKnownSines(t *testing.T) {
	for _, c := range []struct {
		a        int
		sin, cos string
	}{
		{0, "0000000000000000", "3ff0000000000000"},
		{api.Turn / 4, "3ff0000000000000", "8000000000000000"},
		{api.Turn / 2, "8000000000000000", "bff0000000000000"},
		{api.Turn / 4 * 3, "bff0000000000000", "0000000000000000"},
		{-api.Turn, "0000000000000000", "3ff0000000000000"},
		{1, "3d9552844bf45540", "3ff0000000000000"},
		{-1, "bd9552844bf45540", "3ff0000000000000"},
		{123456789, "3f439ce0ea26f1d6", "3fefffff9fd59e06"},
		{161999999999, "3fe6a09e667ec32f", "3fe6a09e667fb46b"},
		{162000000000, "3fe6a09e667f3bcd", "3fe6a09e667f3bcc"},
		{162000000001, "3fe6a09e667fb46b", "3fe6a09e667ec32f"},
		{486000000000, "3fe6a09e667f3bcc", "bfe6a09e667f3bcd"},
		{810000000000, "bfe6a09e667f3bcd", "bfe6a09e667f3bcc"},
		{1133999999999, "bfe6a09e667fb46b", "3fe6a09e667ec32f"},
		{1134000000000, "bfe6a09e667f3bcc", "3fe6a09e667f3bcd"},
		{108000000000, "3fdfffffffffffff", "3febb67ae8584cab"},
		{216000000000, "3febb67ae8584cab", "3fdfffffffffffff"},
		{987654321987, "bfefe86b28d42885", "3fb36908f9c62bad"},
		{api.MaxAngle, "bfdc8e04ab5b1f8b", "3feca36c7287b1e9"},
		{-api.MaxAngle, "3fdc8e04ab5b1f8b", "3feca36c7287b1e9"},
		{math.MaxInt, "3fe0f340e8ee5f63", "bfeb245cd245e740"},
		{math.MinInt, "bfe0f340e8edceb4", "bfeb245cd246419a"},
	} {
		if got := bits.Text(bits.Sin(c.a)); got != c.sin {
			t.Errorf("Sin(%d) = %s, want %s", c.a, got, c.sin)
		}
		if got := bits.Text(bits.Cos(c.a)); got != c.cos {
			t.Errorf("Cos(%d) = %s, want %s", c.a, got, c.cos)
		}
	}
}

// P32: they are what sines are.
func TestSinesNear(t *testing.T) {
	for a := 0; a < api.Turn; a += api.Turn / 1009 {
		x := float64(a) / api.Turn * 2 * math.Pi
		if math.Abs(bits.Sin(a)-math.Sin(x)) > 1e-14 || math.Abs(bits.Cos(a)-math.Cos(x)) > 1e-14 {
			t.Errorf("sines of %d: %v, %v", a, bits.Sin(a), bits.Cos(a))
		}
	}
}
