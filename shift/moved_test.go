package shift_test

import (
	"math"
	"math/rand"
	"slices"
	"testing"

	"meridian/api"
)

// P135: moves, written out.
func TestKnownMoves(t *testing.T) {
	for _, k := range [][10]int{
		{9, 7, 3, 9, 7, 3, 3, 0, 0, 162596395},
		{12, 10, 4, 8, 15, 4, 5, -4, 5, 65430779},
		{20, 3, 6, 3, 20, 9, 16, -9, 13, 47179575},
		{1, 1, 2, 9, 9, 5, 16, 8, 2, 69318384},
		{31, 17, 8, 29, 19, 8, 7, 0, -4, 45144689},
		{13, 13, 5, 13, 13, 7, 0, 0, 0, 8861354},
	} {
		needMoved(t, starry(k[0], k[1], k[2]), starry(k[3], k[4], k[5]), k[6], k[7], k[8], k[9], nil)
	}
}

// P135: small pictures; of equal moves that with the least dy, then dx.
func TestMovesOfFew(t *testing.T) {
	one := pic(1, 3)
	cross := pic(3, 0, 1, 0, 1, 0, 1, 0, 1, 0)
	corners := pic(3, 1, 0, 1, 0, 0, 0, 1, 0, 1)
	star := pic(3, 0, 0, 0, 0, 9, 0, 0, 0, 0)
	for _, c := range []struct {
		a, b              api.Picture
		most, dx, dy, sum int
	}{
		{one, one, 0, 0, 0, 9},
		{one, one, 16, 0, 0, 9},
		// No move has more than another, also where none has a pixel of both.
		{one, pic(1, 0), 0, 0, 0, 0},
		{one, pic(1, 0), 2, -2, -2, 0},
		{even(2, 2, 0), even(4, 4, 5), 16, -16, -16, 0},
		// To the right and down is more.
		{pic(3, 7, 0, 0), pic(3, 0, 0, 2), 2, 2, 0, 14},
		{pic(3, 0, 0, 7), pic(3, 2, 0, 0), 2, -2, 0, 14},
		{pic(1, 7, 0, 0), pic(1, 0, 0, 2), 2, 0, 2, 14},
		{pic(1, 0, 0, 7), pic(1, 2, 0, 0), 2, 0, -2, 14},
		// What is too far is not seen.
		{pic(3, 7, 0, 0), pic(3, 0, 0, 2), 1, -1, -1, 0},
		{pic(3, 7, 0, 0), pic(3, 0, 1, 2), 1, 1, 0, 7},
		{star, cross, 1, 0, -1, 9},
		{star, corners, 1, -1, -1, 9},
		{cross, star, 1, 0, -1, 9},
		{star, pic(3, 0, 0, 0, 1, 0, 1, 0, 1, 0), 1, -1, 0, 9},
		{star, pic(3, 0, 0, 0, 0, 0, 1, 0, 1, 0), 1, 1, 0, 9},
		// A row does not go on in the next one.
		{pic(2, 0, 1, 0, 0), pic(2, 0, 0, 1, 0), 1, -1, 1, 1},
		{pic(3, 0, 0, 1), pic(2, 1, 0, 1, 0), 2, -2, 0, 1},
		// A picture of another size.
		{pic(1, 2), pic(3, 1, 2, 3, 4, 5, 6, 7, 8, 9), 2, 2, 2, 18},
		{pic(3, 1, 2, 3, 4, 5, 6, 7, 8, 9), pic(1, 2), 2, -2, -2, 18},
		{pic(3, 1, 2, 3, 4, 5, 6, 7, 8, 9), pic(1, 2), 1, -1, -1, 10},
		// The greatest counts.
		{even(17, 17, 65535), even(17, 17, 65535), 16, 0, 0, 289 * 65535 * 65535},
	} {
		needMoved(t, c.a, c.b, c.most, c.dx, c.dy, c.sum, nil)
	}
}

// P135, P4: pictures of all kinds; they stay as they are, and so does what lies behind them.
func TestMoved(t *testing.T) {
	dice := rand.New(rand.NewSource(135))
	thrown := func() api.Picture {
		wide, high := 1+dice.Intn(10), 1+dice.Intn(10)
		most := []int{2, 3, 10, 65536}[dice.Intn(4)]
		counts := make([]int, wide*high+1)
		for i := range counts {
			counts[i] = dice.Intn(most)
		}
		return api.Picture{Wide: wide, High: high, Counts: counts[:wide*high]}
	}
	all := func(p api.Picture) []int { return p.Counts[:len(p.Counts)+1] }
	for range 1000 {
		a, b := thrown(), thrown()
		oldA, oldB := slices.Clone(all(a)), slices.Clone(all(b))
		most := dice.Intn(17)
		dx, dy, sum := toldMoved(a, b, most)
		needMoved(t, a, b, most, dx, dy, sum, nil)
		if !slices.Equal(all(a), oldA) || !slices.Equal(all(b), oldB) {
			t.Fatal("a picture was changed")
		}
	}
}

// P135: as many products as there may be, and more.
func TestMovedBounds(t *testing.T) {
	full, one := even(256, 256, 65535), pic(1, 1)
	needMoved(t, full, full, 0, 0, 0, 65536*65535*65535, nil)
	needMoved(t, full, full, 3, 0, 0, 65536*65535*65535, nil) // 49 moves
	needMoved(t, full, one, 3, -3, -3, 65535, nil)
	needMoved(t, full, one, 4, 0, 0, 0, api.ErrBound) // 81 moves
	needMoved(t, full, full, 16, 0, 0, 0, api.ErrBound)
	// How great b is does not count.
	needMoved(t, one, full, 16, 0, 0, 65535, nil)
	// 2^22 over 33 squared is 3851 pixels and a rest: 107 by 36 are 3852, 77 by 50 are 3850.
	needMoved(t, even(77, 50, 1), one, 16, -16, -16, 1, nil)
	needMoved(t, even(50, 77, 1), one, 16, -16, -16, 1, nil)
	needMoved(t, even(107, 36, 1), one, 16, 0, 0, 0, api.ErrBound)
	needMoved(t, even(36, 107, 1), one, 16, 0, 0, 0, api.ErrBound)
	// 2^22 over 9 squared is 51781 and a rest.
	needMoved(t, even(255, 203, 1), one, 4, -4, -4, 1, nil)             // 51765
	needMoved(t, even(249, 208, 1), one, 4, 0, 0, 0, api.ErrBound)      // 51792
	needMoved(t, even(1, 256, 9), one, 16, 0, -16, 9, nil)              // nothing is beside it
	needMoved(t, even(256, 1, 9), one, 16, -16, 0, 9, nil)              // nothing is above it
	needMoved(t, even(256, 203, 1), one, 17, 0, 0, 0, api.ErrShape)     // told ahead of the bound
	needMoved(t, full, api.Picture{}, 16, 0, 0, 0, api.ErrShape)        // and so is b
	needMoved(t, full, even(257, 1, 0), -1, 0, 0, 0, api.ErrBound)      // b ahead of most
	needMoved(t, even(1, 257, 0), pic(1, -1), 1, 0, 0, 0, api.ErrBound) // a ahead of b
}

// P135: what is wrong, the first of it.
func TestMovedWrong(t *testing.T) {
	one := pic(1, 1)
	for _, most := range []int{math.MinInt, -17, -1, 17, 18, 1 << 40, math.MaxInt} {
		needMoved(t, one, one, most, 0, 0, 0, api.ErrShape)
		needMoved(t, even(256, 256, 1), one, most, 0, 0, 0, api.ErrShape)
	}
	shapes := []api.Picture{
		{}, {Wide: 2, High: 2, Counts: make([]int, 3)}, {Wide: 2, High: 2, Counts: make([]int, 5)},
		{Wide: -1, High: -1, Counts: []int{1}}, pic(2, 1, -1), pic(2, 65536, 1),
	}
	bounds := []api.Picture{even(257, 1, 5), even(1, 257, 5), even(257, 1, -1), {Wide: 1 << 62, High: 4}}
	for _, most := range []int{-1, 0, 5, 16, 17} {
		for _, p := range shapes {
			needMoved(t, p, one, most, 0, 0, 0, api.ErrShape)
			needMoved(t, one, p, most, 0, 0, 0, api.ErrShape)
			for _, q := range bounds {
				needMoved(t, p, q, most, 0, 0, 0, api.ErrShape)
				needMoved(t, q, p, most, 0, 0, 0, api.ErrBound)
			}
		}
		for _, p := range bounds {
			needMoved(t, p, one, most, 0, 0, 0, api.ErrBound)
			needMoved(t, one, p, most, 0, 0, 0, api.ErrBound)
		}
	}
}
