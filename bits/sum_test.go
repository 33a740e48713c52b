package bits_test

import (
	"math"
	"math/big"
	"math/rand"
	"slices"
	"testing"

	"meridian/api"
	"meridian/bits"
)

// exactly: the sum of finite numbers, by numbers that are long enough to hold it.
func exactly(l []float64) float64 {
	sum := new(big.Float).SetPrec(3000)
	for _, x := range l {
		sum.Add(sum, new(big.Float).SetPrec(3000).SetFloat64(x))
	}
	if sum.Sign() == 0 {
		for _, x := range l {
			if !math.Signbit(x) || x != 0 {
				return 0
			}
		}
		if len(l) > 0 {
			return minusZero
		}
		return 0
	}
	x, _ := sum.Float64() // to the nearest, from the middle to the even one
	return x
}

// needSum: of a list in several orders, and with all signs turned.
func needSum(t *testing.T, l []float64, want float64) {
	t.Helper()
	dice := rand.New(rand.NewSource(31))
	kept := slices.Clone(l)
	for range 4 {
		before := slices.Clone(kept)
		if got := bits.Sum(kept); !bits.Same(got, want) {
			t.Errorf("Sum(%x) = %x, want %x", kept, got, want)
		}
		if !slices.EqualFunc(before, kept, bits.Same) {
			t.Fatalf("Sum changed its list")
		}
		dice.Shuffle(len(kept), func(i, j int) { kept[i], kept[j] = kept[j], kept[i] })
	}
	turned := make([]float64, len(l))
	for i, x := range l {
		turned[i] = -x
	}
	if got := bits.Sum(turned); want != 0 && !bits.Same(got, -want) {
		t.Errorf("Sum(%x) = %x, want %x", turned, got, -want)
	}
}

// P31: NaNs and infinities, which need no sum.
func TestSumEndless(t *testing.T) {
	up, down, no := math.Inf(1), math.Inf(-1), math.NaN()
	for _, c := range []struct {
		l    []float64
		want float64
	}{
		{[]float64{no}, no},
		{[]float64{no, 1}, no},
		{[]float64{no, up}, no},
		{[]float64{down, no}, no},
		{[]float64{up, down}, no},
		{[]float64{up, 1, up, down, 2}, no},
		{[]float64{up}, up},
		{[]float64{up, up, up}, up},
		{[]float64{up, -math.MaxFloat64, -math.MaxFloat64, -math.MaxFloat64}, up},
		{[]float64{minusZero, up}, up},
		{[]float64{down, 0, 5}, down},
	} {
		needSum(t, c.l, c.want)
	}
	for _, x := range noNumbers {
		needSum(t, []float64{1, x, 2}, no)
	}
}

// P31: an exact sum of 0 is -0 only where there is nothing else.
func TestSumZero(t *testing.T) {
	needSum(t, nil, 0)
	needSum(t, []float64{}, 0)
	needSum(t, []float64{0}, 0)
	needSum(t, []float64{minusZero}, minusZero)
	needSum(t, []float64{minusZero, minusZero, minusZero}, minusZero)
	needSum(t, []float64{minusZero, 0, minusZero}, 0)
	needSum(t, []float64{1, -1}, 0)
	needSum(t, []float64{minusZero, 1, -1}, 0)
	needSum(t, []float64{math.MaxFloat64, math.MaxFloat64, -math.MaxFloat64, -math.MaxFloat64}, 0)
	needSum(t, []float64{0x1p-1074, -0x1p-1074}, 0)
	needSum(t, []float64{0x1p-1074, minusZero}, 0x1p-1074)
	if bits.Text(bits.Sum([]float64{-1, 1})) != "0000000000000000" {
		t.Error("Sum of -1, 1 is not +0")
	}
}

// P31: where it is rounded, and which way.
func TestSumRounded(t *testing.T) {
	const big, least = math.MaxFloat64, 0x1p-1074
	for _, c := range []struct {
		l    []float64
		want float64
	}{
		{[]float64{1e300, 1, -1e300}, 1},
		{[]float64{1, 0x1p-53}, 1},
		{[]float64{1, 0x1p-53, least}, 1 + 0x1p-52},
		{[]float64{1, 0x1p-53, -least}, 1},
		{[]float64{1 + 0x1p-52, 0x1p-53}, 1 + 0x1p-51},
		{[]float64{1 + 0x1p-52, 0x1p-53, -least}, 1 + 0x1p-52},
		{[]float64{1, -0x1p-54}, 1},
		{[]float64{1, -0x1p-54, -least}, 1 - 0x1p-53},
		{[]float64{2 - 0x1p-52, 0x1p-53}, 2},
		{[]float64{0x1p-1022, -least}, 0x1p-1022 - least},
		{[]float64{0x1p-1022 - least, least}, 0x1p-1022},
		{[]float64{0x1p-1021 - least, least}, 0x1p-1021},
		{[]float64{0x1p-1021, least}, 0x1p-1021},
		{[]float64{0x1p-1021 + 0x1p-1073, least}, 0x1p-1021 + 0x1p-1072},
		{[]float64{least, least, least}, 3 * least},
		{[]float64{big, 0x1p969}, big},
		{[]float64{big, 0x1p970}, math.Inf(1)},
		{[]float64{big, 0x1p970, -least}, big},
		{[]float64{big, 0x1p970, least}, math.Inf(1)},
		{[]float64{0x1p1023, 0x1p1023, -0x1p970}, math.Inf(1)},
		{[]float64{0x1p1023, 0x1p1023, -0x1p970, -least}, big},
		{[]float64{0x1p1023, 0x1p1023, -0x1p971}, big},
		{[]float64{0x1p1023, 0x1p1023}, math.Inf(1)},
		{[]float64{big, big}, math.Inf(1)},
		{[]float64{big, big, big, big, big}, math.Inf(1)},
		{[]float64{big, big, big, -big, -big}, big},
	} {
		if exactly(c.l) != c.want {
			t.Fatalf("the test itself is wrong of %x", c.l)
		}
		needSum(t, c.l, c.want)
	}
}

// P31: lists of every size, of numbers near each other and far apart, whose sums
// often lose their leading bits.
func TestSumExact(t *testing.T) {
	dice := rand.New(rand.NewSource(32))
	for range 3000 {
		lowest, wide := dice.Intn(2046), 1+dice.Intn(2046)
		var l []float64
		for range dice.Intn(12) {
			exponent := min(lowest+dice.Intn(wide), 2046)
			fraction := dice.Uint64() >> 12 >> dice.Intn(53) << dice.Intn(53) & (1<<52 - 1)
			l = append(l, math.Float64frombits(dice.Uint64()>>63<<63|uint64(exponent)<<52|fraction))
		}
		needSum(t, l, exactly(l))
		if len(l) > 1 {
			l = append(l, -exactly(l[:len(l)-1]))
			if !math.IsInf(l[len(l)-1], 0) {
				needSum(t, l, exactly(l))
			}
		}
	}
}

// P31: sums that lie in the middle of two numbers, or next to it.
func TestSumMiddle(t *testing.T) {
	dice := rand.New(rand.NewSource(33))
	for range 2000 {
		x := math.Float64frombits(uint64(2+dice.Intn(2044))<<52 | dice.Uint64()>>12)
		half := (math.Nextafter(x, math.Inf(1)) - x) / 2
		for _, rest := range []float64{0, 0x1p-1074, -0x1p-1074, half / 0x1p30, -half / 0x1p40} {
			l := []float64{x, half, rest}
			needSum(t, l, exactly(l))
		}
	}
}

// P31: long lists, whose carries and borrows go far.
func TestSumLong(t *testing.T) {
	l := make([]float64, api.MaxList)
	for i := range l {
		l[i] = math.MaxFloat64
	}
	needSum(t, l, math.Inf(1))
	for i := range l[:len(l)/2] {
		l[i] = -math.MaxFloat64
	}
	needSum(t, l, 0)
	l[0] = 0x1p-1074
	needSum(t, l, math.MaxFloat64)
	l[len(l)-1] = 0
	needSum(t, l, 0x1p-1074)
	for i := range l {
		l[i] = 0.1
	}
	needSum(t, l, exactly(l))
	for i := range l {
		l[i] = float64(1-i%2*2) * math.Ldexp(1, i%2098-1074)
	}
	needSum(t, l, exactly(l))
}
