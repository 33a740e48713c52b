package frame_test

import (
	"math"
	"math/rand"
	"testing"

	"meridian/api"
	"meridian/frame"
)

// P100: what is a picture, and what is wrong with what is none. The errors are bare.
func TestValid(t *testing.T) {
	full := func(wide, high, count int) api.Picture {
		p := api.Picture{Wide: wide, High: high, Counts: make([]int, wide*high)}
		p.Counts[len(p.Counts)-1] = count
		return p
	}
	for _, c := range []struct {
		p   api.Picture
		err error
	}{
		{full(1, 1, 0), nil},
		{full(1, 1, 65535), nil},
		{full(256, 1, 5), nil},
		{full(1, 256, 5), nil},
		{full(256, 256, 65535), nil},
		{api.Picture{}, api.ErrShape},
		{api.Picture{Wide: 1, High: 1}, api.ErrShape},
		{api.Picture{Wide: 1, Counts: []int{}}, api.ErrShape},
		{api.Picture{High: 1, Counts: []int{}}, api.ErrShape},
		{api.Picture{Wide: -1, High: -1, Counts: []int{1}}, api.ErrShape},
		{api.Picture{Wide: 2, High: 2, Counts: make([]int, 3)}, api.ErrShape},
		{api.Picture{Wide: 2, High: 2, Counts: make([]int, 5)}, api.ErrShape},
		{api.Picture{Wide: math.MinInt, High: math.MinInt}, api.ErrShape},
		{api.Picture{Wide: math.MinInt, High: 2}, api.ErrShape},
		{full(2, 3, -1), api.ErrShape},
		{full(2, 3, 65536), api.ErrShape},
		{full(2, 3, math.MinInt), api.ErrShape},
		{full(2, 3, math.MaxInt), api.ErrShape},
		{pic(2, -1, 4), api.ErrShape},
		{pic(2, 65536, 4), api.ErrShape},
		// A side that is too great is told first.
		{full(257, 1, 5), api.ErrBound},
		{full(1, 257, 5), api.ErrBound},
		{full(257, 1, -1), api.ErrBound},
		{api.Picture{Wide: 257}, api.ErrBound},
		{api.Picture{High: 257, Wide: -5}, api.ErrBound},
		{api.Picture{Wide: math.MaxInt, High: math.MaxInt}, api.ErrBound},
		{api.Picture{Wide: math.MinInt, High: math.MaxInt}, api.ErrBound},
		{api.Picture{Wide: 1 << 32, High: 1 << 32}, api.ErrBound},
	} {
		if err := frame.Valid(c.p); err != c.err {
			t.Errorf("Valid of %d by %d with %d counts = %v, want %v", c.p.Wide, c.p.High, len(c.p.Counts), err, c.err)
		}
	}
}

func needAt(t *testing.T, p api.Picture, x, y, want int, there bool) {
	t.Helper()
	if n, ok := frame.At(p, x, y); n != want || ok != there {
		t.Errorf("At(%d, %d) of %d by %d = %d, %t, want %d, %t", x, y, p.Wide, p.High, n, ok, want, there)
	}
}

// P100: each pixel's count, x across and y down, and none around.
func TestAt(t *testing.T) {
	dice := rand.New(rand.NewSource(100))
	for range 300 {
		p := small(dice)
		i := 0
		for y := range p.High {
			for x := range p.Wide {
				needAt(t, p, x, y, p.Counts[i], true)
				i++
			}
		}
		for x := -2; x < p.Wide+2; x++ {
			needAt(t, p, x, -1, 0, false)
			needAt(t, p, x, p.High, 0, false)
		}
		for y := -2; y < p.High+2; y++ {
			needAt(t, p, -1, y, 0, false)
			needAt(t, p, p.Wide, y, 0, false)
		}
	}
}

// P100, P1: numbers that are none of a picture's.
func TestAtFarOff(t *testing.T) {
	p := pic(3, 1, 2, 3, 4, 5, 6)
	far := []int{math.MinInt, math.MinInt + 1, -1 << 32, 1 << 32, 1 << 62, math.MaxInt / 3, math.MaxInt}
	for _, x := range far {
		for _, y := range far {
			needAt(t, p, x, y, 0, false)
		}
		needAt(t, p, x, 0, 0, false)
		needAt(t, p, 0, x, 0, false)
	}
}

// P100, P1: what is no picture has a count where there is one.
func TestAtOfNone(t *testing.T) {
	needAt(t, api.Picture{}, 0, 0, 0, false)
	needAt(t, api.Picture{Wide: 3, High: 3}, 0, 0, 0, false)
	needAt(t, api.Picture{Wide: 3, High: 3}, 2, 2, 0, false)
	needAt(t, api.Picture{Wide: -3, High: -3, Counts: make([]int, 9)}, 0, 0, 0, false)
	needAt(t, api.Picture{Wide: -3, High: -3, Counts: make([]int, 9)}, -1, -1, 0, false)
	short := api.Picture{Wide: 3, High: 3, Counts: []int{1, 2, 3, 4, 5}}
	needAt(t, short, 1, 1, 5, true)
	needAt(t, short, 2, 1, 0, false)
	needAt(t, short, 0, 2, 0, false)
	long := api.Picture{Wide: 2, High: 1, Counts: []int{1, 2, 3, 4}}
	needAt(t, long, 1, 0, 2, true)
	needAt(t, long, 0, 1, 0, false)
	// The products of these go around.
	for _, wide := range []int{1 << 32, 1 << 62, math.MaxInt/2 + 1, math.MaxInt} {
		p := api.Picture{Wide: wide, High: math.MaxInt, Counts: []int{1, 2, 3}}
		needAt(t, p, 2, 0, 3, true)
		for _, y := range []int{1, 2, 4, 1 << 31, 1 << 32, 1 << 33, 1 << 62, math.MaxInt - 1} {
			for x := range 4 {
				needAt(t, p, x, y, 0, false)
			}
			needAt(t, p, wide-1, y, 0, false)
		}
	}
	high := api.Picture{Wide: 1, High: math.MaxInt, Counts: []int{1, 2, 3}}
	needAt(t, high, 0, 2, 3, true)
	needAt(t, high, 0, 3, 0, false)
	needAt(t, high, 0, math.MaxInt-1, 0, false)
}
