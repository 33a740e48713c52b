package light_test

import (
	"math"
	"math/big"
	"math/rand"
	"slices"
	"testing"

	"meridian/api"
	"meridian/bits"
	"meridian/light"
)

var minusZero = math.Copysign(0, -1)

func needTotal(t *testing.T, l [][]float64, want float64) {
	t.Helper()
	for w := 1; w <= api.Workers; w++ {
		if x, err := light.Total(l, w); err != nil || bits.Text(x) != bits.Text(want) {
			t.Fatalf("Total of %d lists by %d = %x, %v, want %x", len(l), w, x, err, want)
		}
	}
}

// exactly: the sum of finite numbers that is not 0, by numbers long enough to hold it.
func exactly(l [][]float64) float64 {
	sum := new(big.Float).SetPrec(3000)
	for _, x := range slices.Concat(l...) {
		sum.Add(sum, new(big.Float).SetPrec(3000).SetFloat64(x))
	}
	x, _ := sum.Float64() // to the nearest, from the middle to the even one
	return x
}

// P120: totals, written out.
func TestKnownTotals(t *testing.T) {
	for _, k := range []struct {
		seed, lists int
		want        string
	}{{1, 5, "e284410400000000"}, {9, 40, "78f53fc29dffe724"}, {23, 300, "7985b3635e4bf67d"}} {
		l := make([][]float64, k.lists)
		for i := range l {
			for n := range (i*7 + k.seed) % 19 {
				sign := 2*((i+n)%2) - 1
				l[i] = append(l[i], math.Ldexp(float64(sign*(i*48271+n*16807+k.seed)), (i*31+n*n*7+k.seed)%1800-900))
			}
		}
		want, err := bits.Read(k.want)
		if err != nil {
			t.Fatal(err)
		}
		needTotal(t, l, want)
	}
}

// P120: rounded once, over all lists, not list by list.
func TestTotalOnce(t *testing.T) {
	const big, least = math.MaxFloat64, 0x1p-1074
	for _, c := range []struct {
		l    [][]float64
		want float64
	}{
		{[][]float64{{1e300}, {1}, {-1e300}}, 1},
		{[][]float64{{1e300, 1}, {-1e300}}, 1},
		{[][]float64{{1, 0x1p-53}, {least}}, 1 + 0x1p-52},
		{[][]float64{{1, 0x1p-53}, {-least}}, 1},
		{[][]float64{{1}, {0x1p-53}}, 1},
		{[][]float64{{0x1p-53}, {0x1p-53}, {1}}, 1 + 0x1p-52},
		{[][]float64{{big, big}, {-big}}, big},
		{[][]float64{{big, big, big}, {-big, -big}, {3}, {-big}}, 3},
		{[][]float64{{big}, {0x1p970}}, math.Inf(1)},
		{[][]float64{{-big}, {-0x1p970}, {least}}, -big},
		{[][]float64{{-big, -big}, nil}, math.Inf(-1)},
	} {
		needTotal(t, c.l, c.want)
	}
}

// P120: zeros, NaNs and infinities, wherever they stand.
func TestTotalEnds(t *testing.T) {
	up, no := math.Inf(1), math.NaN()
	for _, c := range []struct {
		l    [][]float64
		want float64
	}{
		{nil, 0}, {[][]float64{}, 0}, {[][]float64{nil}, 0}, {[][]float64{nil, {}}, 0},
		{[][]float64{{minusZero}}, minusZero}, {[][]float64{nil, {minusZero}, {}}, minusZero},
		{[][]float64{{minusZero, minusZero}, {minusZero}}, minusZero},
		{[][]float64{{minusZero}, {0}}, 0}, {[][]float64{{0}, {minusZero}, {minusZero}}, 0},
		{[][]float64{{1}, {-1}}, 0}, {[][]float64{{minusZero}, {-1}, {1}}, 0},
		{[][]float64{{up}, {1}}, up}, {[][]float64{{-up}, {up}}, no}, {[][]float64{{up}, {up, 5}}, up},
		{[][]float64{{-math.MaxFloat64}, {-math.MaxFloat64}, {up}}, up},
		{[][]float64{{1}, {no}}, no}, {[][]float64{{no}, {up}}, no}, {[][]float64{{-up}, nil, {no}}, no},
	} {
		needTotal(t, c.l, c.want)
	}
}

// P120, P2, P4: lists of all kinds, in any order; they stay as they are.
func TestTotal(t *testing.T) {
	dice := rand.New(rand.NewSource(120))
	for range 100 {
		l := make([][]float64, 1+dice.Intn(60))
		lowest, wide := dice.Intn(2046), 1+dice.Intn(2046)
		for i := range l {
			for range dice.Intn(20) {
				exponent := min(lowest+dice.Intn(wide), 2046)
				l[i] = append(l[i], math.Float64frombits(dice.Uint64()>>63<<63|uint64(exponent)<<52|dice.Uint64()>>12))
			}
		}
		l[0] = append(l[0], math.Float64frombits(uint64(1+dice.Intn(2045))<<52))
		want := exactly(l)
		if want == 0 {
			continue
		}
		var old [][]float64
		for _, one := range l {
			old = append(old, slices.Clone(one))
		}
		needTotal(t, l, want)
		if !slices.EqualFunc(l, old, slices.Equal) {
			t.Fatal("the lists were changed")
		}
		dice.Shuffle(len(l), func(i, j int) { l[i], l[j] = l[j], l[i] })
		needTotal(t, l, want)
	}
}

// P120: as many as there may be, and more. What is wrong with the workers is told first.
func TestTotalBounds(t *testing.T) {
	one := slices.Repeat([]float64{0.1}, api.MaxList)
	long := slices.Repeat([][]float64{one}, api.MaxList)
	// 0.1 is 3602879701896397 over 2^55: 16000000 times that.
	want, _ := new(big.Rat).SetFrac(new(big.Int).Mul(big.NewInt(3602879701896397), big.NewInt(16000000)), new(big.Int).Lsh(big.NewInt(1), 55)).Float64()
	for _, w := range []int{1, 7, 16} {
		if x, err := light.Total(long, w); err != nil || x != want {
			t.Errorf("%x, %v, want %x", x, err, want)
		}
	}
	tooLong := make([]float64, api.MaxList+1)
	for _, l := range [][][]float64{{tooLong}, {nil, {1}, tooLong}, make([][]float64, api.MaxList+1), append(slices.Clone(long), nil)} {
		for w := 1; w <= api.Workers; w++ {
			if x, err := light.Total(l, w); err != api.ErrBound || x != 0 {
				t.Error(x, err)
			}
		}
		for _, w := range []int{math.MinInt, -1, 0, 17, math.MaxInt} {
			if x, err := light.Total(l, w); err != api.ErrShape || x != 0 {
				t.Error(x, err)
			}
		}
	}
	for _, w := range []int{math.MinInt, -1, 0, 17, math.MaxInt} {
		for _, l := range [][][]float64{nil, {{1}}} {
			if x, err := light.Total(l, w); err != api.ErrShape || x != 0 {
				t.Error(x, err)
			}
		}
	}
}
