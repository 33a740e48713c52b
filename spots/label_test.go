package spots_test

import (
	"math"
	"math/rand"
	"slices"
	"testing"

	"meridian/api"
	"meridian/spots"
)

// P113: parts touch at a side or a corner, not around the ends of rows; their numbers
// go by their first pixels.
func TestKnownLabels(t *testing.T) {
	for _, c := range []struct {
		lit  []bool
		wide int
		want []int
		many int
	}{
		{nil, 1, nil, 0},
		{nil, 5, nil, 0},
		{nil, math.MaxInt, nil, 0},
		{[]bool{}, 3, nil, 0},
		{marks("."), 1, []int{0}, 0},
		{marks("#"), 1, []int{1}, 1},
		{marks("#.##.#"), 6, []int{1, 0, 2, 2, 0, 3}, 3},
		{marks("#.##.#"), 1, []int{1, 0, 2, 2, 0, 3}, 3},
		// At a corner, to both sides.
		{marks("#.", ".#"), 2, []int{1, 0, 0, 1}, 1},
		{marks(".#", "#."), 2, []int{0, 1, 1, 0}, 1},
		// A row's end and the next one's beginning do not touch.
		{marks("..#", "#.."), 3, []int{0, 0, 1, 2, 0, 0}, 2},
		{marks("#..", "..#"), 3, []int{1, 0, 0, 0, 0, 2}, 2},
		{marks("..#", "...", "#.."), 3, []int{0, 0, 1, 0, 0, 0, 2, 0, 0}, 2},
		// Two rows apart.
		{marks("#", ".", "#"), 1, []int{1, 0, 2}, 2},
		// Two arms that meet below have one number, and the next one has no gap ahead.
		{marks("#..#.#", "#..#..", ".##..#"), 6, []int{1, 0, 0, 1, 0, 2, 1, 0, 0, 1, 0, 0, 0, 1, 1, 0, 0, 3}, 3},
		// The arm that comes first is the one to the right.
		{marks("....#", "#...#", ".###."), 5, []int{0, 0, 0, 0, 1, 1, 0, 0, 0, 1, 0, 1, 1, 1, 0}, 1},
		// A ring, and what is in it.
		{marks("#####", "#...#", "#.#.#", "#...#", "#####"), 5, []int{
			1, 1, 1, 1, 1,
			1, 0, 0, 0, 1,
			1, 0, 2, 0, 1,
			1, 0, 0, 0, 1,
			1, 1, 1, 1, 1}, 2},
	} {
		needLabel(t, c.lit, c.wide, c.want, c.many)
	}
}

// P113: what a pixel touches, one by one.
func TestTouch(t *testing.T) {
	for k := range 25 {
		lit := make([]bool, 25)
		lit[12], lit[k] = true, true
		want, many := make([]int, 25), 1
		want[12], want[k] = 1, 1
		if x, y := k%5, k/5; x == 0 || x == 4 || y == 0 || y == 4 {
			want[max(12, k)] = 2
			many = 2
		}
		needLabel(t, lit, 5, want, many)
	}
}

// P113, P1: as many pixels as there may be, in rows of all lengths: all lit, one in four,
// like a board, and one way through all of it.
func TestLabelGreatest(t *testing.T) {
	const all = api.MaxSide * api.MaxSide
	for wide := 1; wide <= all; wide *= 2 {
		lit, want := make([]bool, all), make([]int, all)
		for i := range lit {
			lit[i], want[i] = true, 1
		}
		needLabel(t, lit, wide, want, 1)
	}
	alone, wantAlone := make([]bool, all), make([]int, all)
	board, wantBoard := make([]bool, all), make([]int, all)
	way, wantWay := make([]bool, all), make([]int, all)
	many := 0
	for i := range all {
		x, y := i%256, i/256
		if x%2 == 0 && y%2 == 0 {
			many++
			alone[i], wantAlone[i] = true, many
		}
		if (x+y)%2 == 0 {
			board[i], wantBoard[i] = true, 1
		}
		if y%2 == 0 || x == 0 && y%4 == 3 || x == 255 && y%4 == 1 {
			way[i], wantWay[i] = true, 1
		}
	}
	needLabel(t, alone, 256, wantAlone, 128*128)
	needLabel(t, board, 256, wantBoard, 1)
	needLabel(t, way, 256, wantWay, 1)
	// Another pixel more is too many.
	for _, wide := range []int{math.MinInt, -1, 0, 1, 2, 256, all + 1, math.MaxInt} {
		for _, lit := range [][]bool{make([]bool, all+1), append(alone, true), make([]bool, 2*all)} {
			if l, n, err := spots.Label(lit, wide); len(l) != 0 || n != 0 || err != api.ErrBound {
				t.Errorf("%d by %d: %d, %v", len(lit), wide, n, err)
			}
		}
	}
}

// P113, P4: lists of all kinds, which stay as they are; what is answered is new.
func TestLabel(t *testing.T) {
	dice := rand.New(rand.NewSource(113))
	for range 4000 {
		wide := 1 + dice.Intn(12)
		lit := make([]bool, wide*dice.Intn(12))
		lots := 1 + dice.Intn(9)
		for i := range lit {
			lit[i] = dice.Intn(10) < lots
		}
		old := slices.Clone(lit)
		want, many := toldLabel(lit, wide)
		needLabel(t, lit, wide, want, many)
		l, _, _ := spots.Label(lit, wide)
		clear(l)
		needLabel(t, lit, wide, want, many)
		if !slices.Equal(lit, old) {
			t.Fatal("what was handed over was changed")
		}
	}
}

// P113: rows that are none.
func TestLabelWrong(t *testing.T) {
	for _, c := range []struct{ long, wide int }{
		{0, 0}, {0, -1}, {0, math.MinInt}, {5, 0}, {6, -2}, {6, -3}, {5, 2}, {5, 4}, {5, 6}, {5, math.MaxInt}, {1, 2},
		{65535, 256}, {65536, 0}, {65536, 65537}, {65536, 3},
	} {
		if l, n, err := spots.Label(make([]bool, c.long), c.wide); len(l) != 0 || n != 0 || err != api.ErrShape {
			t.Errorf("%d by %d: %v, %d, %v", c.long, c.wide, l, n, err)
		}
	}
}
