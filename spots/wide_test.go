package spots_test

import (
	"math"
	"math/rand"
	"slices"
	"testing"

	"meridian/api"
	"meridian/spots"
)

const pixel = 1024

// P114: the share is reached with a ring of pixels at once, and just at it.
func TestWideRings(t *testing.T) {
	p := pic(3,
		5, 10, 5,
		10, 40, 10,
		5, 10, 5)
	s := spots.Spot{Right: 2, Low: 2, Star: api.Star{X: 1536, Y: 1536}}
	for share := 1; share <= 100; share++ {
		want := 0
		if share > 40 {
			want = pixel * pixel
		}
		if share > 80 {
			want = 2 * pixel * pixel
		}
		needWide(t, p, s, share, want, nil)
	}
	// Half a pixel to the left, and up: four pixels are nearest.
	s.Star.X, s.Star.Y = 1024, 1024
	for share, want := range map[int]int{1: 2 * 512 * 512, 65: 2 * 512 * 512, 66: 1536*1536 + 512*512, 95: 1536*1536 + 512*512, 96: 2 * 1536 * 1536, 100: 2 * 1536 * 1536} {
		needWide(t, p, s, share, want, nil)
	}
}

// P114: hundredths are not rounded.
func TestWideShares(t *testing.T) {
	p := pic(3, 1, 1, 1)
	s := spots.Spot{Right: 2, Star: api.Star{X: 512, Y: 512}}
	for share := 1; share <= 100; share++ {
		want := 0
		if share > 33 {
			want = pixel * pixel
		}
		if share > 66 {
			want = 4 * pixel * pixel
		}
		needWide(t, p, s, share, want, nil)
	}
	needWide(t, pic(2, 65535, 1), spots.Spot{Right: 1, Star: api.Star{X: 512, Y: 512}}, 99, 0, nil)
	needWide(t, pic(2, 65535, 1), spots.Spot{Right: 1, Star: api.Star{X: 512, Y: 512}}, 100, pixel*pixel, nil)
}

// P114: only the box counts, and dark pixels have nothing, be they near or far.
func TestWideBox(t *testing.T) {
	p := drawn(
		"9999999",
		"9.....9",
		"9..3..9",
		"9.1...9",
		"9999999")
	s := spots.Spot{Left: 1, Top: 1, Right: 5, Low: 3, Star: api.Star{X: 3*pixel + 512, Y: 2*pixel + 512}}
	needWide(t, p, s, 75, 0, nil)
	needWide(t, p, s, 76, 2*pixel*pixel, nil)
	needWide(t, p, s, 100, 2*pixel*pixel, nil)
	// From a corner of the box, that is dark.
	s.Star.X, s.Star.Y = 512+pixel, 512+pixel
	needWide(t, p, s, 1, 5*pixel*pixel, nil)
	needWide(t, p, s, 100, 5*pixel*pixel, nil)
	// A box of one pixel, from where it is and from elsewhere.
	one := spots.Spot{Left: 2, Top: 3, Right: 2, Low: 3, Star: api.Star{X: 2*pixel + 512, Y: 3*pixel + 512}}
	needWide(t, p, one, 100, 0, nil)
	one.Star = api.Star{X: -512, Y: 7*pixel + 515}
	needWide(t, p, one, 1, 9*pixel*pixel+(4*pixel+3)*(4*pixel+3), nil)
	// What the spot says of its pixels and its light is not looked at.
	one.Pixels, one.Light, one.Star.Light = -3, math.MinInt, math.MaxInt
	needWide(t, p, one, 1, 9*pixel*pixel+(4*pixel+3)*(4*pixel+3), nil)
}

// P114: a Star that is as far off as it may be, and farther.
func TestWideFarOff(t *testing.T) {
	const far = 1 << 28
	p := even(256, 256, 65535)
	s := spots.Spot{Right: 255, Low: 255}
	for _, x := range []int{-far, far} {
		for _, y := range []int{-far, far} {
			s.Star = api.Star{X: x, Y: y}
			nearX, farX := far-255*pixel-512, far-512
			if x < 0 {
				nearX, farX = far+512, far+255*pixel+512
			}
			nearY, farY := far-255*pixel-512, far-512
			if y < 0 {
				nearY, farY = far+512, far+255*pixel+512
			}
			needWide(t, p, s, 100, farX*farX+farY*farY, nil)
			one := spots.Spot{Left: 255, Right: 255, Top: 255, Low: 255, Star: s.Star}
			if x < 0 {
				one.Left, one.Right = 0, 0
			}
			if y < 0 {
				one.Top, one.Low = 0, 0
			}
			needWide(t, p, one, 1, nearX*nearX+nearY*nearY, nil)
		}
	}
	for _, n := range []int{math.MinInt, -far - 1, far + 1, 1 << 32, math.MaxInt} {
		s.Star = api.Star{X: n}
		needWide(t, p, s, 50, 0, api.ErrShape)
		s.Star = api.Star{Y: n}
		needWide(t, p, s, 50, 0, api.ErrShape)
	}
}

// P114: nothing there.
func TestWideNone(t *testing.T) {
	p := drawn(
		"....",
		"..1.",
		"....")
	for _, s := range []spots.Spot{
		{}, {Right: 3}, {Right: 1, Low: 2}, {Left: 3, Right: 3, Low: 2}, {Left: 1, Right: 3, Top: 2, Low: 2},
	} {
		for _, share := range []int{1, 50, 100} {
			needWide(t, p, s, share, 0, api.ErrNone)
		}
		// What is wrong is told first.
		needWide(t, p, s, 0, 0, api.ErrShape)
		needWide(t, p, s, 101, 0, api.ErrShape)
		s.Star.Y = 1<<28 + 1
		needWide(t, p, s, 50, 0, api.ErrShape)
	}
	needWide(t, p, spots.Spot{Right: 3, Low: 2}, 50, 2560*2560+1536*1536, nil)
	needWide(t, even(256, 256, 0), spots.Spot{Right: 255, Low: 255}, 1, 0, api.ErrNone)
}

// P114: shares and boxes that are none, and what is no picture.
func TestWideWrong(t *testing.T) {
	p := even(4, 3, 9)
	right := spots.Spot{Right: 3, Low: 2}
	for _, share := range []int{math.MinInt, -1, 0, 101, math.MaxInt} {
		needWide(t, p, right, share, 0, api.ErrShape)
	}
	for _, s := range []spots.Spot{
		{Left: -1}, {Left: -1, Right: -1}, {Right: -1}, {Top: -1}, {Top: -1, Low: -1}, {Low: -1},
		{Right: 4}, {Left: 4, Right: 4}, {Low: 3}, {Top: 3, Low: 3},
		{Left: 1}, {Left: 3, Right: 2}, {Top: 1}, {Top: 2, Low: 1},
		{Left: math.MinInt, Right: math.MaxInt}, {Top: math.MinInt, Low: math.MaxInt},
		{Right: math.MaxInt}, {Low: math.MaxInt}, {Left: math.MaxInt, Right: math.MinInt},
	} {
		for _, share := range []int{0, 1, 100, 101} {
			needWide(t, p, s, share, 0, api.ErrShape)
		}
	}
	for _, c := range wrongs() {
		for _, s := range []spots.Spot{{}, right, {Left: -1}, {Star: api.Star{X: math.MinInt}}} {
			for _, share := range []int{0, 50} {
				needWide(t, c.p, s, share, 0, c.err)
			}
		}
	}
}

// P114, P4: boxes of all kinds in pictures, which stay as they are.
func TestWide(t *testing.T) {
	dice := rand.New(rand.NewSource(114))
	for range 2000 {
		p := small(dice)
		old := slices.Clone(p.Counts)
		s := spots.Spot{Left: dice.Intn(p.Wide), Top: dice.Intn(p.High)}
		s.Right, s.Low = s.Left+dice.Intn(p.Wide-s.Left), s.Top+dice.Intn(p.High-s.Top)
		reach := []int{2, 512, 20000, 1 << 28}[dice.Intn(4)]
		s.Star.X, s.Star.Y = dice.Intn(2*reach+1)-reach, dice.Intn(2*reach+1)-reach
		share := 1 + dice.Intn(100)
		if want, ok := toldWide(p, s, share); ok {
			needWide(t, p, s, share, want, nil)
		} else {
			needWide(t, p, s, share, 0, api.ErrNone)
		}
		if !slices.Equal(p.Counts, old) {
			t.Fatal("the picture was changed")
		}
	}
}

// P114: of spots as they are found.
func TestWideOfFound(t *testing.T) {
	dice := rand.New(rand.NewSource(1140))
	for range 300 {
		p := small(dice)
		l, err := spots.Find(p, 1+dice.Intn(14), dice.Intn(3), 1)
		if err != nil {
			t.Fatal(err)
		}
		for _, s := range l {
			share := 1 + dice.Intn(100)
			want, _ := toldWide(p, s, share)
			needWide(t, p, s, share, want, nil)
		}
	}
}
