package bits_test

import (
	"math"
	"math/rand"
	"slices"
	"testing"

	"meridian/bits"
)

// joined: the sum of a list whose numbers are thrown into so many tallies, which are
// then joined in any order.
func joined(dice *rand.Rand, l []float64, many int) float64 {
	tallies := make([]bits.Tally, many)
	for _, x := range l {
		tallies[dice.Intn(many)].Add(x)
	}
	for len(tallies) > 1 {
		i := dice.Intn(len(tallies) - 1)
		tallies[i].Join(tallies[i+1])
		tallies = slices.Delete(tallies, i+1, i+2)
	}
	return tallies[0].Sum()
}

// P31: a sum hangs neither on an order nor on what was added up apart.
func TestTally(t *testing.T) {
	dice := rand.New(rand.NewSource(310))
	up, no := math.Inf(1), math.NaN()
	for _, l := range [][]float64{
		nil, {0}, {minusZero}, {minusZero, minusZero, minusZero}, {minusZero, 0}, {1, -1}, {-1, minusZero, 1},
		{up}, {up, up, 1}, {-up, 5}, {up, -up}, {up, 1, -up, 2}, {no}, {no, up}, {1, no},
		{1e300, 1, -1e300}, {1, 0x1p-53, 0x1p-1074}, {1, 0x1p-53, -0x1p-1074},
		{math.MaxFloat64, math.MaxFloat64, -math.MaxFloat64}, {math.MaxFloat64, 0x1p970}, {math.MaxFloat64, 0x1p970, -0x1p-1074},
	} {
		for many := 1; many < 6; many++ {
			if got, want := joined(dice, l, many), bits.Sum(l); !bits.Same(got, want) {
				t.Errorf("%x in %d tallies: %x, want %x", l, many, got, want)
			}
		}
	}
	for range 2000 {
		var l []float64
		for range dice.Intn(40) {
			l = append(l, math.Float64frombits(dice.Uint64()>>63<<63|uint64(dice.Intn(2047))<<52|dice.Uint64()>>12))
		}
		if got, want := joined(dice, l, 1+dice.Intn(8)), exactly(l); !bits.Same(got, want) {
			t.Fatalf("%x: %x, want %x", l, got, want)
		}
	}
}

// P31: a sum that is asked for twice, and added to in between; one that was joined stays
// as it was.
func TestTallyGoesOn(t *testing.T) {
	var a, b bits.Tally
	if x := a.Sum(); bits.Text(x) != bits.Text(0) {
		t.Error(x)
	}
	a.Add(3)
	b.Add(-0.5)
	b.Join(a)
	for range 2 {
		if a.Sum() != 3 || b.Sum() != 2.5 {
			t.Error(a.Sum(), b.Sum())
		}
	}
	a.Add(-5)
	b.Join(b)
	if a.Sum() != -2 || b.Sum() != 5 {
		t.Error(a.Sum(), b.Sum())
	}
}

// P1: more than it holds for, which ends all the same: all bits from one on are 1, up to
// the last one that there is, and one more is added.
func TestTallyTooMany(t *testing.T) {
	for _, x := range []float64{0x1p971, -0x1p971, math.MaxFloat64, -0x1p-1074} {
		var a bits.Tally
		for range 2300 {
			a.Join(a)
			a.Add(x)
			b := a
			b.Add(x)
			b.Sum()
		}
	}
}
