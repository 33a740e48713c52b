package frame_test

import (
	"math"
	"math/rand"
	"testing"

	"meridian/api"
	"meridian/frame"
)

// P100: what is a picture, and what is wrong with what is none. The errors are bare.
func TestValid(t *testing.T) {
	full := func(wide, high, count int) api.Picture {
		p := api.Picture{Wide: wide, High: high, Counts: make([]int, wide*high)}
		p.Counts[len(p.Counts)-1] = count
		return p
	}
	for _, c := range []struct {
		p   api.Picture
		err error
	}{
		{full(1, 1, 0), nil},
		{full(1, 1, 65535), nil},
		{full(256, 1, 5), nil},
		{full(1, 256, 5), nil},
		{full(256, 256, 65535), nil},
		{api.Picture{}, api.ErrShape},
		{api.Picture{Wide: 1, High: 1}, api.ErrShape},
		{api.Picture{Wide: 1, Counts: []int{}}, api.ErrShape},
		{api.Picture{High: 1, Counts: []int{}}, api.ErrShape},
		{api.Picture{Wide: -1, High: -1, Counts: []int{1}}, api.ErrShape},
		{api.Picture{Wide: 2, High: 2, Counts: make([]int, 3)}, api.ErrShape},
		{api.Picture{Wide: 2, High: 2, Counts: make([]int, 5)}, api.ErrShape},
		{api.Picture{Wide: math.MinInt, High: math.MinInt}, api.ErrShape},
		{api.Picture{Wide: math.MinInt, High: 2}, api.ErrShape},
		{full(2, 3, -1), api.ErrShape},
		{full(2, 3, 65536), api.ErrShape},
		{full(2, 3, math.MinInt), api.ErrShape},
		{full(2, 3, math.MaxInt), api.ErrShape},
		{pic(2, -1, 4), api.ErrShape},
		{pic(2, 65536, 4), api.ErrShape},
		// A side that is too great is told first.
		{full(257, 1, 5), api.ErrBound},
		{full(1, 257, 5), api.ErrBound},
		{full(257, 1, -1), api.ErrBound},
		{api.Picture{Wide: 257}, api.ErrBound},
		{api.Picture{High: 257, Wide: -5}, api.ErrBound},
		{api.Picture{Wide: math.MaxInt, High: math.MaxInt}, api.ErrBound},
		{api.Picture{Wide: math.MinInt, High: math.MaxInt}, api.ErrBound},
		{api.Picture{Wide: 1 << 32, High: 1 << 32}, api.ErrBound},
	} {
		if err := frame.Valid(c.p); err != c.err {
			t.Errorf("Valid of %d by %d with %d counts = %v, want %v", c.p.Wide, c.p.High, len(c.p.Counts), err, c.err)
		}
	}
}

func needAt(t *testing.T, p api.Picture, x, y, want int, there bool) {
	t.Helper()
	if n, ok := frame.At(p, x, y); n != want || ok != there {
		t.Errorf("At(%d, %d) of %d by %d = %d, %t, want %d, %t", x, y, p.Wide, p.High, n, ok, want, there)
	}
}

// P100: each pixel's count, x across and y down, and none around.
func TestAt(t *testing.T) {
	dice := rand.New(rand.NewSource(100))
	for range 300 {
		p := small(dice)
		i := 0
		for y := range p.High {
			for x := range p.Wide {
				needAt(t, p, x, y, p.Counts[i], true)
				i++
			}
		}
		for x := -2; x < p.Wide+2; x++ {
			needAt(t, p, x, -1, 0, false)
			needAt(t, p, x, p.High, 0, false)
		}
		for y := -2; y < p.High+2; y++ {
			needAt(t, p, -1, y, 0, false)
			needAt(t, p, p.Wide, y, 0, false)
		}
	}
}

// P100, P1: numbers that are none of a picture's.
func TestAtFarOff(t *testing.T) {
	p := pic(3, 1, 2, 3, 4, 5, 6)
	far := []int{math.MinInt, math.MinInt + 1, -1 << 32, 1 << 32, 1 << 62, math.MaxInt / 3, math.MaxInt}
	for _, x := range far {
		for _, y := range far {
			needAt(t, p, x, y, 0, false)
		}
		needAt(t, p, x, 0, 0, false)
		needAt(t, p, 0, x, 0, false)
	}
}

// P100, P1: what is no picture has no pixels, and so no count at one.
func TestAtOfNone(t *testing.T) {
	zeros := func(n int) []int { return make([]int, n) }
	for _, p := range []api.Picture{
		{},
		{Counts: []int{1}},
		{Wide: 1, High: 1},
		{Wide: 1, Counts: []int{1}},
		{High: 1, Counts: []int{1}},
		{Wide: -3, High: -3, Counts: zeros(9)},
		{Wide: 3, High: 3, Counts: zeros(5)},
		{Wide: 3, High: 3, Counts: zeros(8)},
		{Wide: 3, High: 3, Counts: zeros(10)},
		{Wide: 2, High: 1, Counts: zeros(4)},
		{Wide: 257, High: 1, Counts: zeros(257)},
		{Wide: 1, High: 257, Counts: zeros(257)},
		{Wide: 257, High: 257, Counts: zeros(257 * 257)},
		// The products of these go around.
		{Wide: 1 << 32, High: 1 << 32, Counts: []int{1, 2, 3}},
		{Wide: 1 << 62, High: math.MaxInt, Counts: []int{1, 2, 3}},
		{Wide: math.MaxInt, High: math.MaxInt, Counts: []int{1}},
		{Wide: 1, High: math.MaxInt, Counts: []int{1, 2, 3}},
		{Wide: math.MinInt, High: math.MinInt, Counts: []int{1}},
	} {
		needNoPixels(t, p)
	}
}

// P100: one wrong count, wherever it is, takes all the others with it.
func TestAtWithWrongCount(t *testing.T) {
	dice := rand.New(rand.NewSource(36))
	for range 300 {
		p := small(dice)
		i := dice.Intn(len(p.Counts))
		right := p.Counts[i]
		for _, wrong := range []int{-1, 65536, math.MinInt, math.MaxInt} {
			p.Counts[i] = wrong
			needNoPixels(t, p)
		}
		p.Counts[i] = right
		needAt(t, p, i%p.Wide, i/p.Wide, right, true)
	}
}

// needNoPixels looks in and around the first rows, and at the far corners.
func needNoPixels(t *testing.T, p api.Picture) {
	t.Helper()
	for y := -2; y < 10; y++ {
		for x := -2; x < 10; x++ {
			needAt(t, p, x, y, 0, false)
		}
	}
	for _, x := range []int{0, p.Wide - 1, p.Wide} {
		for _, y := range []int{0, p.High - 1, p.High} {
			needAt(t, p, x, y, 0, false)
		}
	}
}

// P100: of pictures of the greatest sides each corner has its count.
func TestAtOfGreatest(t *testing.T) {
	p := made(256, 256, 17)
	for _, x := range []int{0, 1, 255} {
		for _, y := range []int{0, 1, 255} {
			needAt(t, p, x, y, p.Counts[256*y+x], true)
		}
	}
	needAt(t, p, 256, 0, 0, false)
	needAt(t, p, 0, 256, 0, false)
}
