package arc_test

import (
	"math"
	"math/big"
	"math/rand"
	"slices"
	"testing"

	"meridian/api"
	"meridian/arc"
)

// angles: those at which something turns, and others of every size.
func angles() []int {
	l := []int{math.MinInt, math.MinInt + 1, math.MaxInt, math.MaxInt - 1, -api.MaxAngle, api.MaxAngle}
	for _, turns := range []int{-1000, -3, -2, -1, 0, 1, 2, 3, 1000} {
		for _, part := range []int{0, api.Turn / 4, api.Turn / 2, 3 * (api.Turn / 4)} {
			for off := -9; off <= 9; off++ {
				l = append(l, turns*api.Turn+part+off)
			}
		}
	}
	dice := rand.New(rand.NewSource(20))
	for range 500 {
		l = append(l, int(dice.Uint64())>>dice.Intn(64))
	}
	return l
}

// normed by numbers that cannot wrap round.
func normed(a *big.Int) int {
	return int(new(big.Int).Mod(a, big.NewInt(api.Turn)).Int64()) // Mod is never below 0
}

// signed: the one of two that lies in the half-open turn.
func signed(norm int) int {
	if 2*norm > api.Turn {
		return norm - api.Turn
	}
	return norm
}

// P20: Norm and Signed, of every number.
func TestNormAndSigned(t *testing.T) {
	for _, a := range angles() {
		want := normed(big.NewInt(int64(a)))
		if n := arc.Norm(a); n != want {
			t.Errorf("Norm(%d) = %d, want %d", a, n, want)
		}
		if s := arc.Signed(a); s != signed(want) {
			t.Errorf("Signed(%d) = %d, want %d", a, s, signed(want))
		}
	}
}

// P20: the edges of Norm and Signed.
func TestNormEdges(t *testing.T) {
	const half = api.Turn / 2
	for _, c := range []struct{ a, norm, signed int }{
		{0, 0, 0}, {-1, api.Turn - 1, -1}, {api.Turn - 1, api.Turn - 1, -1}, {api.Turn, 0, 0}, {-api.Turn, 0, 0},
		{half, half, half}, {-half, half, half}, {half + 1, half + 1, 1 - half}, {half - 1, half - 1, half - 1},
		{-half - 1, half - 1, half - 1}, {1 - half, half + 1, 1 - half}, {7*api.Turn + 3, 3, 3},
	} {
		if n, s := arc.Norm(c.a), arc.Signed(c.a); n != c.norm || s != c.signed {
			t.Errorf("Norm, Signed of %d = %d, %d, want %d, %d", c.a, n, s, c.norm, c.signed)
		}
	}
}

// P20: Apart, of every two numbers.
func TestApart(t *testing.T) {
	l := angles()
	for i, a := range l {
		for _, b := range l[i%7:] {
			far := normed(new(big.Int).Sub(big.NewInt(int64(a)), big.NewInt(int64(b))))
			if got, want := arc.Apart(a, b), min(far, api.Turn-far); got != want {
				t.Fatalf("Apart(%d, %d) = %d, want %d", a, b, got, want)
			}
		}
	}
	for _, c := range [][3]int{
		{0, 0, 0}, {5, -5, 10}, {-5, 5, 10}, {0, api.Turn / 2, api.Turn / 2}, {api.Turn / 2, 0, api.Turn / 2},
		{0, api.Turn/2 + 1, api.Turn/2 - 1}, {1, api.Turn, 1}, {api.Turn, 1, 1}, {math.MinInt, math.MinInt, 0},
	} {
		if got := arc.Apart(c[0], c[1]); got != c[2] {
			t.Errorf("Apart(%d, %d) = %d, want %d", c[0], c[1], got, c[2])
		}
	}
}

// meanOf angles, by numbers that cannot wrap round.
func meanOf(l []int) (int, bool) {
	if len(l) == 0 || len(l) > 4000 {
		return 0, false
	}
	first, sum := big.NewInt(int64(l[0])), new(big.Int)
	for _, a := range l {
		d := signed(normed(new(big.Int).Sub(big.NewInt(int64(a)), first)))
		if 4*max(d, -d) >= api.Turn {
			return 0, false
		}
		sum.Add(sum, big.NewInt(int64(d)))
	}
	sum.Div(sum, big.NewInt(int64(len(l)))) // rounded down: what divides is above 0
	return normed(sum.Add(sum, first)), true
}

// meanIs what it should be, and the list stays as it was.
func meanIs(t *testing.T, l []int, want int, wantOk bool) {
	t.Helper()
	was := slices.Clone(l)
	if got, ok := arc.Mean(l); got != want || ok != wantOk {
		t.Errorf("Mean of %d angles, %v.. = %d, %v, want %d, %v", len(l), l[:min(len(l), 5)], got, ok, want, wantOk)
	}
	if !slices.Equal(was, l) {
		t.Error("Mean wrote into its list")
	}
}

// P23: means, rounded down, and lists that have none.
func TestMean(t *testing.T) {
	const quarter = api.Turn / 4
	for _, c := range []struct {
		l    []int
		want int
		ok   bool
	}{
		{nil, 0, false}, {[]int{}, 0, false}, {[]int{0}, 0, true}, {[]int{-1}, api.Turn - 1, true}, {[]int{api.MaxAngle}, api.MaxAngle % api.Turn, true},
		{[]int{-1, 4}, 1, true}, {[]int{4, -1}, 1, true}, {[]int{0, -1}, api.Turn - 1, true}, {[]int{0, 1}, 0, true}, {[]int{0, 0, -1}, api.Turn - 1, true},
		{[]int{0, -1, -1, -1}, api.Turn - 1, true}, {[]int{0, -2}, api.Turn - 1, true}, {[]int{10, api.Turn + 20, 30 - 2*api.Turn}, 20, true},
		{[]int{0, quarter - 1}, (quarter - 1) / 2, true}, {[]int{0, 1 - quarter}, api.Turn - quarter/2, true},
		{[]int{0, quarter - 1, 1 - quarter}, 0, true}, {[]int{quarter - 1, 1 - quarter}, 0, false},
		{[]int{0, quarter}, 0, false}, {[]int{0, -quarter}, 0, false}, {[]int{0, api.Turn / 2}, 0, false}, {[]int{5, 5, 5, 5 + quarter}, 0, false},
		{[]int{api.MaxAngle, -api.MaxAngle}, 0, true}, {[]int{api.MaxAngle, api.MaxAngle - 3}, api.MaxAngle%api.Turn - 2, true},
	} {
		meanIs(t, c.l, c.want, c.ok)
	}
}

// P23: lists as long as they may be, at the far ends, and longer ones.
func TestMeanOfLongLists(t *testing.T) {
	const quarter = api.Turn / 4
	for _, end := range []int{quarter - 1, 1 - quarter, 0} {
		l := slices.Repeat([]int{end}, 4000)
		l[0] = 0
		want, ok := meanOf(l)
		meanIs(t, l, want, ok)
		if !ok {
			t.Error("4000 angles must have a mean")
		}
		meanIs(t, append(l, 0), 0, false)
	}
	l := make([]int, 4000)
	l[3999] = quarter
	meanIs(t, l, 0, false)
}

// P23: means of lists that lie around an angle, near and far.
func TestMeanAsReckoned(t *testing.T) {
	dice := rand.New(rand.NewSource(23))
	for range 3000 {
		first := dice.Intn(2*api.MaxAngle) - api.MaxAngle
		spread := 1 + dice.Intn(1+api.Turn>>dice.Intn(40)/2)
		l := []int{first}
		for range dice.Intn(12) {
			l = append(l, first+dice.Intn(spread)-spread/2+(dice.Intn(5)-2)*api.Turn)
		}
		want, ok := meanOf(l)
		meanIs(t, l, want, ok)
	}
}
