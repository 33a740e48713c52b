package light_test

import (
	"crypto/sha256"
	"fmt"
	"math"
	"math/big"
	"math/rand"
	"slices"
	"strings"
	"testing"

	"meridian/api"
	"meridian/bits"
	"meridian/light"
)

const fastest = 1 << 40

// seen is light at times by a rule that the values written out were reckoned by.
func seen(seed, many int) (times []int, l []float64) {
	for i := range many {
		t := i*i*977 + seed*i
		if i%3 == 0 {
			t = -t
		}
		if seed > 10 {
			t = (t*48271%(2*fastest)+2*fastest)%(2*fastest) - fastest + 1
		}
		times = append(times, t)
		l = append(l, float64((i*37+seed)%101-50)/8)
	}
	return times, l
}

// P123, P124: powers, written out.
func TestKnownPowers(t *testing.T) {
	for _, k := range []struct {
		seed, times, step, from, many, best int
		first, greatest, last, sum          string
	}{
		{3, 10, 1000000007, 5, 7, 5, "4012100000080d0c", "4064d25027fe6a52", "4047fe2e8e8546d7", "3390dd59e3fb0dbaeb4780a7c25d9975fb0d4940880d865d5b23eeb7d88361ea"},
		{11, 200, -987654321, 1099511627776, 50, 33, "409038fab31c9556", "40c201300c29b38d", "40a5001287107460", "0446e7cb1b3cfe97ae5ec0255a1bc8b2f1b3ee8b2ef76003b622b4aab5a37583"},
		{29, 77, 1099511627776, -1099511627776, 400, 108, "4075791e11904e2f", "40b8259649656812", "407342a6f3ef21f4", "518c64e451102dd96348bf1b2e7be131fde8deba536ac7bc9c9ab859745a686d"},
		{5, 40, 20250000000, 0, 65, 10, "3ff0000000000000", "40ac4796a631af59", "3ff0000000000000", "4791c5885d2b7722b56a689871ca6a8d1554dd43d1384a8f3d059fa6f093783f"},
		{1, 4, -1099511627776, 1099511627776, 4000, 1693, "404621d9a314998f", "406c804ab4e2b77f", "40456df30e18a064", "239b726b15ca775b3d22f77fc7185219fffedeff7216aa89a0150596678759b6"},
	} {
		times, l := seen(k.seed, k.times)
		power, err := light.Power(times, l, k.step, k.from, k.many)
		best, ok := light.Best(power)
		if err != nil || len(power) != k.many || !ok || best != k.best {
			t.Errorf("%d: %d powers, the best is %d, %v", k.seed, len(power), best, err)
			continue
		}
		var texts []string
		for _, x := range power {
			texts = append(texts, bits.Text(x))
		}
		if texts[0] != k.first || texts[best] != k.greatest || texts[k.many-1] != k.last {
			t.Errorf("%d: %s, %s, %s", k.seed, texts[0], texts[best], texts[k.many-1])
		}
		if sum := fmt.Sprintf("%x", sha256.Sum256([]byte(strings.Join(texts, " ")))); sum != k.sum {
			t.Errorf("%d: the powers are others", k.seed)
		}
	}
}

// toldPower of one wave: numbers of any size for the angle, and the two sums apart.
func toldPower(times []int, l []float64, w *big.Int) float64 {
	across, up := 0.0, 0.0
	for i, t := range times {
		angle := new(big.Int).Mul(w, big.NewInt(int64(t)))
		a := int(angle.Mod(angle, big.NewInt(api.Turn)).Int64())
		x, y := l[i]*bits.Cos(a), l[i]*bits.Sin(a)
		across, up = across+float64(x), up-float64(y)
	}
	x, y := across*across, up*up
	return float64(x) + float64(y)
}

func toldPowers(times []int, l []float64, step, from, many int) []float64 {
	var power []float64
	for k := range many {
		w := new(big.Int).Mul(big.NewInt(int64(step)), big.NewInt(int64(k)))
		power = append(power, toldPower(times, l, w.Add(w, big.NewInt(int64(from)))))
	}
	return power
}

func needPower(t *testing.T, times []int, l []float64, step, from, many int, want []float64) {
	t.Helper()
	if power, err := light.Power(times, l, step, from, many); err != nil || !slices.EqualFunc(power, want, bits.Same) {
		t.Fatalf("Power(%v, %v, %d, %d, %d) = %v, %v, want %v", times, l, step, from, many, power, err, want)
	}
}

// P123: waves by quarter turns, which are exact.
func TestPowerOfQuarters(t *testing.T) {
	const quarter = api.Turn / 4
	for _, c := range []struct {
		times            []int
		l                []float64
		step, from, many int
		want             []float64
	}{
		{[]int{0}, []float64{3}, 7, 9, 3, []float64{9, 9, 9}},
		{[]int{0, 1}, []float64{1, 2}, 0, quarter, 2, []float64{5, 5}},
		{[]int{0, 1}, []float64{1, 2}, quarter, 0, 5, []float64{9, 5, 1, 5, 9}},
		{[]int{0, 1}, []float64{1, 2}, -quarter, quarter, 5, []float64{5, 9, 5, 1, 5}},
		{[]int{0, 1, 2, 3}, []float64{1, 0, -1, 0}, quarter, 0, 4, []float64{0, 4, 0, 4}},
		{[]int{3, 2, 1, 0}, []float64{1, 1, 1, 1}, quarter, 0, 4, []float64{16, 0, 0, 0}},
		{[]int{-1, 5}, []float64{1, 4}, 0, quarter, 1, []float64{9}},
		{[]int{5, 5}, []float64{1, 4}, 0, quarter, 1, []float64{25}},
		{[]int{fastest, 0}, []float64{1, 1}, 0, quarter, 1, []float64{4}},
		{[]int{fastest - 1, 0}, []float64{1, 1}, 0, quarter, 1, []float64{2}},
		{[]int{-fastest, -fastest + 2}, []float64{3, 1}, 0, -quarter, 1, []float64{4}},
	} {
		needPower(t, c.times, c.l, c.step, c.from, c.many, c.want)
	}
}

// P123: the sums are taken in order, and each step is rounded.
func TestPowerInOrder(t *testing.T) {
	needPower(t, []int{0, 0, 0}, []float64{1e100, 1, -1e100}, 0, 0, 1, []float64{0})
	needPower(t, []int{0, 0, 0}, []float64{1e100, -1e100, 1}, 0, 0, 1, []float64{1})
	needPower(t, []int{0}, []float64{1 + 0x1p-52}, 0, 0, 1, []float64{1 + 0x1p-51})
	// One square alone is endless, or none at all.
	needPower(t, []int{0}, []float64{1e200}, 0, 0, 2, []float64{math.Inf(1), math.Inf(1)})
	needPower(t, []int{0}, []float64{1e-200}, 0, 0, 1, []float64{0})
	needPower(t, []int{0}, []float64{minusZero}, 0, 0, 1, []float64{0})
	needPower(t, []int{0, 1}, []float64{math.NaN(), 1}, 5, 0, 2, []float64{math.NaN(), math.NaN()})
	needPower(t, []int{1}, []float64{math.Inf(-1)}, 1, 1, 1, []float64{math.Inf(1)})
	needPower(t, []int{0}, []float64{math.Inf(1)}, 1, 1, 1, []float64{math.NaN()}) // its sine is 0
}

// P123, P4: waves of all kinds; lists stay as they are.
func TestPower(t *testing.T) {
	dice := rand.New(rand.NewSource(123))
	any := func() int {
		reach := 1 << (1 + dice.Intn(40))
		return dice.Intn(2*reach+1) - reach
	}
	for range 500 {
		many := 1 + dice.Intn(20)
		times, l := make([]int, many), make([]float64, many)
		for i := range times {
			times[i], l[i] = any(), dice.NormFloat64()
		}
		oldTimes, oldLight := slices.Clone(times), slices.Clone(l)
		step, from, waves := any(), any(), 1+dice.Intn(30)
		needPower(t, times, l, step, from, waves, toldPowers(times, l, step, from, waves))
		if !slices.Equal(times, oldTimes) || !slices.Equal(l, oldLight) {
			t.Fatal("a list was changed")
		}
	}
}

// P123: as many and as great as there may be.
func TestPowerOfGreatest(t *testing.T) {
	for _, step := range []int{fastest, -fastest} {
		for _, from := range []int{fastest, -fastest} {
			times, l := []int{fastest, -fastest, 0, fastest - 1, 1 - fastest}, []float64{1, 2, 3, 4, 5}
			needPower(t, times, l, step, from, api.MaxList, toldPowers(times, l, step, from, api.MaxList))
		}
	}
	times, l := make([]int, api.MaxList), slices.Repeat([]float64{0.5}, api.MaxList)
	needPower(t, times, l, 3, 5, 2, []float64{2000 * 2000, 2000 * 2000})
}

// P123: wrong shapes, which are told first, and bounds.
func TestPowerWrong(t *testing.T) {
	one, light1 := []int{1}, []float64{1}
	long, longLight := make([]int, api.MaxList+1), make([]float64, api.MaxList+1)
	for _, c := range []struct {
		times            []int
		l                []float64
		step, from, many int
		want             error
	}{
		{nil, nil, 0, 0, 1, api.ErrShape},
		{[]int{}, []float64{}, 0, 0, 1, api.ErrShape},
		{nil, nil, 0, 0, 0, api.ErrShape},
		{one, nil, 0, 0, 1, api.ErrShape},
		{nil, light1, 0, 0, 1, api.ErrShape},
		{one, []float64{1, 2}, 0, 0, 1, api.ErrShape},
		{[]int{1, 2}, light1, 0, 0, 1, api.ErrShape},
		{long, longLight[1:], 0, 0, 1, api.ErrShape},
		{long[1:], longLight, 0, 0, 1, api.ErrShape},
		{one, nil, math.MaxInt, math.MinInt, -1, api.ErrShape},
		{[]int{math.MinInt}, nil, 0, 0, 1, api.ErrShape},
		{long, longLight, 0, 0, 1, api.ErrBound},
		{one, light1, 0, 0, 0, api.ErrBound},
		{one, light1, 0, 0, -1, api.ErrBound},
		{one, light1, 0, 0, math.MinInt, api.ErrBound},
		{one, light1, 0, 0, api.MaxList + 1, api.ErrBound},
		{one, light1, 0, 0, math.MaxInt, api.ErrBound},
		{one, light1, fastest + 1, 0, 1, api.ErrBound},
		{one, light1, -fastest - 1, 0, 1, api.ErrBound},
		{one, light1, math.MinInt, 0, 1, api.ErrBound},
		{one, light1, 0, fastest + 1, 1, api.ErrBound},
		{one, light1, 0, -fastest - 1, 1, api.ErrBound},
		{one, light1, 0, math.MinInt, 1, api.ErrBound},
		{[]int{fastest + 1}, light1, 0, 0, 1, api.ErrBound},
		{[]int{1, -fastest - 1}, []float64{1, 1}, 0, 0, 1, api.ErrBound},
		{[]int{1, math.MinInt, 1}, []float64{1, 1, 1}, 0, 0, 1, api.ErrBound},
	} {
		if power, err := light.Power(c.times, c.l, c.step, c.from, c.many); err != c.want || len(power) != 0 {
			t.Errorf("%d times, %d lights, %d, %d, %d: %v, %v", len(c.times), len(c.l), c.step, c.from, c.many, power, err)
		}
	}
}

// P124: the first of the greatest; NaNs are none.
func TestBest(t *testing.T) {
	up, no := math.Inf(1), math.NaN()
	for _, c := range []struct {
		l    []float64
		want int
		some bool
	}{
		{nil, 0, false}, {[]float64{}, 0, false}, {[]float64{no}, 0, false}, {[]float64{no, no, no}, 0, false},
		{[]float64{0}, 0, true}, {[]float64{minusZero}, 0, true}, {[]float64{-5}, 0, true}, {[]float64{-up}, 0, true},
		{[]float64{no, -up}, 1, true}, {[]float64{-up, no}, 0, true}, {[]float64{-up, -up, no}, 0, true},
		{[]float64{1, 2, 3}, 2, true}, {[]float64{3, 2, 1}, 0, true}, {[]float64{1, 3, 2}, 1, true},
		{[]float64{1, 3, 3, 2, 3}, 1, true}, {[]float64{2, 2}, 0, true}, {[]float64{-2, -1, -1}, 1, true},
		{[]float64{no, 1, no, 5, no, 5, 2}, 3, true}, {[]float64{5, no, 6, no}, 2, true},
		{[]float64{1, up, up}, 1, true}, {[]float64{math.MaxFloat64, up}, 1, true}, {[]float64{0, 0x1p-1074}, 1, true},
		{[]float64{minusZero, 0}, 0, true}, {[]float64{0, minusZero}, 0, true},
	} {
		if k, ok := light.Best(c.l); k != c.want || ok != c.some {
			t.Errorf("Best(%v) = %d, %v, want %d, %v", c.l, k, ok, c.want, c.some)
		}
	}
	long := make([]float64, 3*api.MaxList)
	long[2*api.MaxList] = 1
	if k, ok := light.Best(long); k != 2*api.MaxList || !ok {
		t.Error(k, ok)
	}
}
