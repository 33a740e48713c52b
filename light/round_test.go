package light_test

import (
	"math"
	"math/rand"
	"slices"
	"testing"

	"meridian/api"
)

// P121: pictures of stars, written out.
func TestKnownRounds(t *testing.T) {
	for _, k := range []struct {
		wide, high, seed        int
		at                      api.Star
		in, out                 int
		light, ground, together int
	}{
		{20, 15, 7, api.Star{X: 11776, Y: 7680}, 2500, 6000, 20786, 138, 21},
		{20, 15, 7, api.Star{X: 12000, Y: 9000}, 1, 1048576, 0, 124, 0},
		{20, 15, 7, api.Star{X: -3000, Y: 5000}, 4000, 9000, -20, 115, 4},
		{20, 15, 7, api.Star{X: 262144, Y: 262144}, 100000, 400000, 0, 124, 0},
		{20, 15, 7, api.Star{X: 10240, Y: 7680}, 700, 800, 1403, 0, 2},
		{20, 15, 7, api.Star{X: 8192, Y: 8192}, 1024, 1448, 514, 0, 4},
		{20, 15, 7, api.Star{X: 8192, Y: 8192}, 724, 725, 0, 119, 0},
		{20, 15, 7, api.Star{X: -268435456, Y: 268435456}, 524288, 1048576, 0, 0, 0},
		{64, 48, 21, api.Star{X: 11776, Y: 22016}, 2500, 6000, 8562, 118, 21},
		{64, 48, 21, api.Star{X: 12000, Y: 9000}, 1, 1048576, 0, 128, 0},
		{64, 48, 21, api.Star{X: -3000, Y: 5000}, 4000, 9000, -20, 117, 4},
		{64, 48, 21, api.Star{X: 262144, Y: 262144}, 100000, 400000, 0, 128, 0},
		{64, 48, 21, api.Star{X: 32768, Y: 24576}, 700, 800, 0, 120, 0},
		{64, 48, 21, api.Star{X: 8192, Y: 8192}, 724, 725, 0, 164, 0},
		{256, 256, 13, api.Star{X: 11776, Y: 13824}, 2500, 6000, 8561, 119, 21},
		{256, 256, 13, api.Star{X: 12000, Y: 9000}, 1, 1048576, 0, 182, 0},
		{256, 256, 13, api.Star{X: -3000, Y: 5000}, 4000, 9000, -13, 110, 4},
		{256, 256, 13, api.Star{X: 262144, Y: 262144}, 100000, 400000, 458860, 173, 7491},
		{256, 256, 13, api.Star{X: 131072, Y: 131072}, 700, 800, 0, 175, 0},
	} {
		needRound(t, starry(k.wide, k.high, k.seed), k.at, k.in, k.out, [3]int{k.light, k.ground, k.together}, nil)
	}
}

// P121: at most in is light; more than in, and at most out, is ground.
func TestRoundEdges(t *testing.T) {
	p := pic(5, 10, 20, 40, 80, 160)
	at := api.Star{X: 512, Y: 512, Light: 77}
	for _, c := range []struct {
		in, out int
		want    [3]int
	}{
		{1, 2, [3]int{10, 0, 1}},
		{1, 1023, [3]int{10, 0, 1}},
		{1, 1024, [3]int{-10, 20, 1}},
		{1023, 1024, [3]int{-10, 20, 1}},
		{1024, 1025, [3]int{30, 0, 2}},
		{1024, 2047, [3]int{30, 0, 2}},
		{1024, 2048, [3]int{-50, 40, 2}},
		{1024, 3072, [3]int{-50, 40, 2}}, // of 40, 80 the lower one
		{1024, 4096, [3]int{-130, 80, 2}},
		{2047, 4096, [3]int{-130, 80, 2}},
		{2048, 4096, [3]int{-170, 80, 3}},
		{4095, 1 << 20, [3]int{150 - 4*160, 160, 4}},
		{4096, 1 << 20, [3]int{310, 0, 5}},
		{1<<20 - 1, 1 << 20, [3]int{310, 0, 5}},
	} {
		needRound(t, p, at, c.in, c.out, c.want, nil)
	}
	// 3, 4, 5: aslant too, exactly.
	far := pic(1, 500, 900)
	needRound(t, far, api.Star{X: 512 - 300, Y: 512 - 400}, 500, 501, [3]int{500, 0, 1}, nil)
	needRound(t, far, api.Star{X: 512 - 300, Y: 512 - 400}, 499, 500, [3]int{0, 500, 0}, nil)
	needRound(t, far, api.Star{X: 512 - 300, Y: 512 - 400}, 498, 499, [3]int{0, 0, 0}, nil)
}

// P121: as far off as it may be, and farther.
func TestRoundFarOff(t *testing.T) {
	p := even(256, 256, 65535)
	const far = 1 << 28
	for _, at := range []api.Star{{X: far}, {X: -far}, {Y: far}, {Y: -far}, {X: far, Y: -far}, {X: -far, Y: far}, {X: far, Y: far}} {
		needRound(t, p, at, 1, 1<<20, [3]int{}, nil)
	}
	for _, n := range []int{math.MinInt, -far - 1, far + 1, 1 << 32, math.MaxInt} {
		needRound(t, p, api.Star{X: n}, 1, 2, [3]int{}, api.ErrShape)
		needRound(t, p, api.Star{Y: n}, 1, 2, [3]int{}, api.ErrShape)
	}
	// All the light that there may be.
	needRound(t, p, api.Star{X: 1 << 17, Y: 1 << 17}, 1<<19, 1<<20, [3]int{65535 * 65536, 0, 65536}, nil)
}

// P121: wrong radii, and what is no picture, which is told first.
func TestRoundWrong(t *testing.T) {
	p := even(3, 3, 9)
	for _, c := range [][2]int{
		{0, 5}, {-1, 5}, {math.MinInt, math.MaxInt}, {5, 5}, {5, 4}, {1, 1}, {1, 0}, {1, -1}, {5, math.MinInt},
		{5, 1<<20 + 1}, {5, math.MaxInt}, {1 << 20, 1 << 20}, {1 << 20, 1<<20 + 1}, {math.MaxInt, math.MaxInt}, {0, 0},
	} {
		needRound(t, p, api.Star{X: 1536, Y: 1536}, c[0], c[1], [3]int{}, api.ErrShape)
		for _, w := range wrongs() {
			needRound(t, w.p, api.Star{X: math.MinInt}, c[0], c[1], [3]int{}, w.err)
		}
	}
	for _, w := range wrongs() {
		needRound(t, w.p, api.Star{}, 1, 2, [3]int{}, w.err)
	}
}

// P121, P4: pictures of all kinds, which stay as they are.
func TestRound(t *testing.T) {
	dice := rand.New(rand.NewSource(121))
	for range 3000 {
		p := thrown(dice)
		old := slices.Clone(p.Counts)
		reach := []int{2, 600, 7000, 20000, 1 << 20}[dice.Intn(5)]
		at := api.Star{X: dice.Intn(2*reach+1) - reach, Y: dice.Intn(2*reach+1) - reach, Light: dice.Intn(9)}
		if dice.Intn(2) == 0 { // pixels at just so far
			at.X, at.Y = at.X/512*512, at.Y/512*512
		}
		in := 1 + dice.Intn([]int{3, 4000, 1<<20 - 1}[dice.Intn(3)])
		if dice.Intn(2) == 0 {
			in = max(in/512, 1) * 512
		}
		in = min(in, 1<<20-1)
		out := in + 1 + dice.Intn(min(1<<20-in, []int{2, 5000, 1 << 20}[dice.Intn(3)]))
		needRound(t, p, at, in, out, toldRound(p, at, in, out), nil)
		if !slices.Equal(p.Counts, old) {
			t.Fatal("the picture was changed")
		}
	}
}
