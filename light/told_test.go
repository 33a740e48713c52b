package light_test

import (
	"math/big"
	"math/rand"
	"slices"
	"testing"

	"meridian/api"
	"meridian/light"
)

func pic(wide int, counts ...int) api.Picture {
	return api.Picture{Wide: wide, High: len(counts) / wide, Counts: counts}
}

// even is a picture of one count.
func even(wide, high, count int) api.Picture {
	return api.Picture{Wide: wide, High: high, Counts: slices.Repeat([]int{count}, wide*high)}
}

// starry is a picture by a rule that the values written out were reckoned by.
func starry(wide, high, seed int) api.Picture {
	p := api.Picture{Wide: wide, High: high}
	for i := range wide * high {
		x, y := i%wide, i/wide
		n := 100 + 3*(x/5) + (i*i*31+i*seed)%17
		for k := range 4 {
			across, down := x-(k*k*37+k*seed+11)%wide, y-(k*k*53+k*29+seed)%high
			far := across*across + down*down
			n += (2000 + 977*k) / (1 + far*far)
		}
		p.Counts = append(p.Counts, min(n, 65535))
	}
	return p
}

func thrown(dice *rand.Rand) api.Picture {
	wide, high := 1+dice.Intn(12), 1+dice.Intn(12)
	most := []int{2, 3, 10, 1000, 65536}[dice.Intn(5)]
	p := even(wide, high, 0)
	for i := range p.Counts {
		p.Counts[i] = dice.Intn(most)
	}
	return p
}

// wrong is a picture that is none, and what is told of it.
type wrong struct {
	p   api.Picture
	err error
}

func wrongs() []wrong {
	return []wrong{
		{api.Picture{}, api.ErrShape},
		{api.Picture{Wide: 2, High: 2, Counts: make([]int, 3)}, api.ErrShape},
		{api.Picture{Wide: 2, High: 2, Counts: make([]int, 5)}, api.ErrShape},
		{api.Picture{Wide: -1, High: -1, Counts: []int{1}}, api.ErrShape},
		{pic(2, 1, -1), api.ErrShape},
		{pic(2, 65536, 1), api.ErrShape},
		{even(257, 1, 5), api.ErrBound},
		{even(1, 257, 5), api.ErrBound},
		{even(257, 1, -1), api.ErrBound},
		{api.Picture{Wide: 1 << 62, High: 4}, api.ErrBound},
	}
}

// square of a number, of any size.
func square(n int) *big.Int { return new(big.Int).Mul(big.NewInt(int64(n)), big.NewInt(int64(n))) }

// toldRound goes through the pixels once for each of what it tells. The ground is the least
// count that at least half of the ring's do not pass.
func toldRound(p api.Picture, at api.Star, in, out int) (told [3]int) {
	within := func(i, far int) bool {
		across, down := 1024*(i%p.Wide)+512-at.X, 1024*(i/p.Wide)+512-at.Y
		return new(big.Int).Add(square(across), square(down)).Cmp(square(far)) <= 0
	}
	var ring []int
	for i, n := range p.Counts {
		if within(i, out) && !within(i, in) {
			ring = append(ring, n)
		}
	}
	ground := 0
	for _, n := range ring {
		upTo, below := 0, 0
		for _, m := range ring {
			if m <= n {
				upTo++
			}
			if m < n {
				below++
			}
		}
		if 2*upTo >= len(ring) && 2*below < len(ring) {
			ground = n
		}
	}
	told[1] = ground
	for i, n := range p.Counts {
		if within(i, in) {
			told[0] += n - ground
			told[2]++
		}
	}
	return told
}

func needRound(t *testing.T, p api.Picture, at api.Star, in, out int, want [3]int, wantErr error) {
	t.Helper()
	l, g, n, err := light.Round(p, at, in, out)
	if err != wantErr || [3]int{l, g, n} != want {
		t.Fatalf("Round(%d by %d, %v, %d, %d) = %d, %d, %d, %v, want %v, %v", p.Wide, p.High, at, in, out, l, g, n, err, want, wantErr)
	}
}
