package spots_test

import (
	"math"
	"math/rand"
	"slices"
	"testing"

	"meridian/api"
	"meridian/spots"
)

// P110: tiles row by row from the left upper corner on, the ones at the ends smaller.
func TestGroundOfTiles(t *testing.T) {
	p := pic(5,
		10, 11, 20, 21, 30,
		12, 13, 22, 23, 31,
		40, 41, 50, 51, 60)
	needGround(t, p, 1, p.Counts...)
	needGround(t, p, 2, 11, 21, 30, 40, 50, 60)
	needGround(t, p, 3, 20, 30)
	needGround(t, p, 4, 21, 31)
	for _, tile := range []int{5, 6, 15, 255, 256} {
		needGround(t, p, tile, 23)
	}
}

// P110: of an even number the lower middle one, wherever it stands.
func TestGroundMiddle(t *testing.T) {
	for _, c := range []struct {
		l    []int
		want int
	}{
		{[]int{0}, 0},
		{[]int{65535}, 65535},
		{[]int{9, 7}, 7},
		{[]int{7, 9}, 7},
		{[]int{9, 7, 8}, 8},
		{[]int{4, 1, 3, 2}, 2},
		{[]int{0, 65535, 65535, 0}, 0},
		{[]int{5, 5, 5, 1, 1, 1}, 1},
		{[]int{5, 5, 5, 1, 1}, 5},
	} {
		needGround(t, pic(len(c.l), c.l...), 256, c.want)
		needGround(t, pic(1, c.l...), 256, c.want)
	}
}

// P110: the greatest pictures.
func TestGroundOfGreatest(t *testing.T) {
	p := even(256, 256, 7)
	for i := range p.Counts {
		p.Counts[i] = i % 65536
	}
	needGround(t, p, 256, 32767)
	needGround(t, p, 1, p.Counts...)
	// The middle of rows 0 to 254 of columns 0 to 254; the last column, the last row, the corner.
	needGround(t, p, 255, 127*256+127, 127*256+255, 255*256+127, 255*256+255)
	needGround(t, p, 128, 63*256+127, 63*256+255, 191*256+127, 191*256+255)
}

// P110, P4: pictures of all kinds, which stay as they are; what is answered is new.
func TestGround(t *testing.T) {
	dice := rand.New(rand.NewSource(110))
	for range 2000 {
		p := small(dice)
		old := slices.Clone(p.Counts)
		tile := 1 + dice.Intn(14)
		needGround(t, p, tile, toldGround(p, tile)...)
		l, _ := spots.Ground(p, tile)
		for i := range l {
			l[i] = -5
		}
		if !slices.Equal(p.Counts, old) {
			t.Fatal("the picture was changed")
		}
	}
}

// P110: wrong tiles, and what is no picture, which is told first.
func TestGroundWrong(t *testing.T) {
	p := pic(2, 1, 2, 3, 4)
	for _, tile := range []int{math.MinInt, -1, 0, 257, math.MaxInt} {
		if l, err := spots.Ground(p, tile); len(l) != 0 || err != api.ErrShape {
			t.Errorf("by %d: %v, %v", tile, l, err)
		}
	}
	for _, c := range wrongs() {
		for _, tile := range []int{-1, 0, 1, 2, 256, 257} {
			if l, err := spots.Ground(c.p, tile); len(l) != 0 || err != c.err {
				t.Errorf("%d by %d, by %d: %v, %v, want %v", c.p.Wide, c.p.High, tile, l, err, c.err)
			}
		}
	}
}

// P111: more than so much above the ground of the own tile.
func TestLitEdges(t *testing.T) {
	p := pic(4,
		10, 13, 50, 51,
		10, 14, 50, 60)
	needGround(t, p, 2, 10, 50)
	needLit(t, p, 2, 0, marks(".#.#", ".#.#"))
	needLit(t, p, 2, 1, marks(".#..", ".#.#"))
	needLit(t, p, 2, 3, marks("....", ".#.#"))
	needLit(t, p, 2, 4, marks("....", "...#"))
	needLit(t, p, 2, 9, marks("....", "...#"))
	needLit(t, p, 2, 10, marks("....", "...."))
	// All in one tile, whose ground is 14.
	needLit(t, p, 4, 0, marks("..##", "..##"))
	needLit(t, p, 4, 36, marks("...#", "...#"))
	// Each pixel is its own ground.
	needLit(t, p, 1, 0, marks("....", "...."))
}

// P111: how much may be over, to its ends.
func TestLitOver(t *testing.T) {
	p := pic(3, 0, 0, 65535)
	for _, over := range []int{0, 1, 65534} {
		needLit(t, p, 3, over, marks("..#"))
	}
	for _, over := range []int{65535, 65536, math.MaxInt - 1, math.MaxInt} {
		needLit(t, p, 3, over, marks("..."))
	}
	// Below the ground is not lit.
	needLit(t, pic(3, 65535, 65535, 0), 3, 0, marks("..."))
	needLit(t, pic(3, 65535, 65535, 0), 3, math.MaxInt, marks("..."))
}

// P111, P4: pictures of all kinds, which stay as they are.
func TestLit(t *testing.T) {
	dice := rand.New(rand.NewSource(111))
	for range 2000 {
		p := small(dice)
		old := slices.Clone(p.Counts)
		tile, over := 1+dice.Intn(14), dice.Intn([]int{1, 3, 1000, 70000}[dice.Intn(4)])
		needLit(t, p, tile, over, toldLit(p, tile, over))
		if !slices.Equal(p.Counts, old) {
			t.Fatal("the picture was changed")
		}
	}
}

// P111: what is wrong.
func TestLitWrong(t *testing.T) {
	p := pic(2, 1, 2, 3, 4)
	for _, c := range [][2]int{{2, -1}, {2, math.MinInt}, {0, 0}, {-1, 5}, {257, 0}, {math.MaxInt, 0}, {0, -1}} {
		if l, err := spots.Lit(p, c[0], c[1]); len(l) != 0 || err != api.ErrShape {
			t.Errorf("by %d over %d: %v, %v", c[0], c[1], l, err)
		}
	}
	for _, c := range wrongs() {
		for _, tile := range []int{0, 2, 257} {
			for _, over := range []int{-1, 0} {
				if l, err := spots.Lit(c.p, tile, over); len(l) != 0 || err != c.err {
					t.Errorf("%d by %d, by %d over %d: %v, %v, want %v", c.p.Wide, c.p.High, tile, over, l, err, c.err)
				}
			}
		}
	}
}
