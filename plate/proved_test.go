package plate_test

import (
	"math"
	"math/rand"
	"slices"
	"testing"

	"meridian/api"
	"meridian/plate"
)

func needProved(t *testing.T, stars, list []api.Cell, f plate.Fit, hits []int, near int, want bool) {
	t.Helper()
	if plate.Proved(stars, list, f, hits, near) != want {
		t.Errorf("Proved of %v, %v, %v, %v, %d is not %v", stars, list, f, hits, near, want)
	}
}

// P143: hits that are so, and such as are not.
func TestProvedOfFew(t *testing.T) {
	stars := []api.Cell{at(10, 10), at(40, 10), at(10, 50), at(70, 70)}
	list := []api.Cell{at(12, 10), at(42, 13), at(12, 50), at(15, 12), at(0, 0)}
	f := plate.Fit{1, 0, 2, 0, 1, 0, 1}
	for _, c := range []struct {
		hits []int
		near int
		want bool
	}{
		{[]int{0, -1, 2, -1}, 0, true},
		{[]int{0, 1, 2, -1}, 3, true},
		{[]int{0, 1, 2, -1}, 2, false},
		{[]int{-1, -1, -1, -1}, 0, true},
		{[]int{-1, -1, 2, -1}, 0, true},
		// A point that is near enough is one that is hit, also if another is nearer.
		{[]int{3, 1, 2, -1}, 3, true},
		{[]int{3, 1, 2, -1}, 2, false},
		{[]int{4, 1, 2, -1}, 12, true},
		{[]int{4, 1, 2, -1}, 11, false},
		// A point that is named twice.
		{[]int{0, 0, 2, -1}, 30, false},
		{[]int{0, 3, 2, -1}, 30, true},
		{[]int{0, 1, 2, 0}, widest, false},
		{[]int{1, 2, 3, 1}, widest, false},
		{[]int{1, 2, 3, 4}, widest, true},
		{[]int{-1, 4, 4, -1}, widest, false},
		// What is no point's number.
		{[]int{0, 1, 2, -2}, widest, false},
		{[]int{0, 1, 2, 5}, widest, false},
		{[]int{math.MinInt, -1, -1, -1}, widest, false},
		{[]int{-1, -1, math.MaxInt, -1}, widest, false},
		// Hits that are more or fewer than stars.
		{nil, widest, false},
		{[]int{0, 1, 2}, 3, false},
		{[]int{0, 1, 2, -1, -1}, 3, false},
		// What is not near.
		{[]int{-1, -1, -1, -1}, -1, false},
		{[]int{-1, -1, -1, -1}, widest, true},
		{[]int{-1, -1, -1, -1}, widest + 1, false},
		{[]int{-1, -1, -1, -1}, math.MinInt, false},
		{[]int{-1, -1, -1, -1}, math.MaxInt, false},
	} {
		needProved(t, stars, list, f, c.hits, c.near, c.want)
	}
	for _, over := range []int{0, -1, math.MinInt} {
		f.Over = over
		needProved(t, stars, list, f, []int{-1, -1, -1, -1}, 0, false)
		needProved(t, nil, nil, f, nil, 0, false)
	}
	needProved(t, nil, nil, plate.Fit{Over: 1}, nil, 0, true)
	needProved(t, nil, list, plate.Fit{Over: math.MaxInt}, []int{}, widest, true)
	needProved(t, stars[:1], nil, plate.Fit{Over: 1}, []int{0}, widest, false)
	needProved(t, stars[:1], nil, plate.Fit{Over: 1}, []int{-1}, widest, true)
	// Two points at one place have two numbers.
	needProved(t, stars[:2], []api.Cell{at(5, 5), at(5, 5)}, plate.Fit{C: 5, F: 5, Over: 1}, []int{1, 0}, 0, true)
	// Rounded down, and near on each side along each axis.
	for _, c := range []struct {
		x, y int
		want bool
	}{{-1, 0, true}, {7, 0, true}, {-2, 0, false}, {8, 0, false}, {0, -1, true}, {0, 7, true}, {0, -2, false}, {0, 8, false}} {
		needProved(t, []api.Cell{{}}, []api.Cell{at(3, 3)}, plate.Fit{C: 2*c.x + 1, F: 2*c.y + 1, Over: 2}, []int{0}, 4, c.want)
	}
}

// P143: only stars that hit, and points that are hit, must be points.
func TestProvedNoPoints(t *testing.T) {
	for _, wrong := range noPoints() {
		stars, list := []api.Cell{at(5, 5), wrong}, []api.Cell{at(5, 5), wrong, at(5, 5)}
		for _, f := range []plate.Fit{{Over: 1}, {A: 1, E: 1, Over: 1}} {
			needProved(t, stars, list, f, []int{0, -1}, widest, true)
			needProved(t, stars, list, f, []int{-1, -1}, widest, true)
			needProved(t, stars, list, f, []int{1, -1}, widest, false)
			needProved(t, stars, list, f, []int{-1, 0}, widest, false)
			needProved(t, stars, list, f, []int{0, 2}, widest, false)
			needProved(t, stars, list, f, []int{-1, 1}, widest, false)
		}
	}
}

// P143: numbers that are far too great hit nothing.
func TestProvedGreat(t *testing.T) {
	for _, n := range []int{math.MinInt, -1 << 61, -1<<40 - 1, 1<<40 + last + 1, 1 << 61, math.MaxInt} {
		one, list := []api.Cell{at(1, 1)}, []api.Cell{at(0, 0), at(last, last)}
		for _, f := range []plate.Fit{{A: n, Over: 1}, {B: n, Over: 1}, {C: n, Over: 1}, {D: n, Over: 1}, {E: n, Over: 1}, {F: n, Over: 1}} {
			needProved(t, one, list, f, []int{0}, widest, false)
			needProved(t, one, list, f, []int{1}, widest, false)
		}
	}
	needProved(t, []api.Cell{at(1, 1)}, []api.Cell{at(0, 0)}, plate.Fit{A: 1 << 40, E: -1 << 40, Over: 1}, []int{0}, widest, true)
	needProved(t, []api.Cell{at(1, 1)}, []api.Cell{at(0, 0)}, plate.Fit{A: 1 << 40, E: -1 << 40, Over: 1}, []int{0}, widest-1, false)
}

// P143, P142: what Match tells is proved where it names no point twice; lists that are
// longer than Match takes are looked at too, and all stay as they are.
func TestProved(t *testing.T) {
	dice := rand.New(rand.NewSource(143))
	yes := 0
	for range 3000 {
		stars, list := thrownPoints(dice, 3+dice.Intn(5), 9), thrownPoints(dice, 3+dice.Intn(9), 9)
		near := dice.Intn(2)
		f, hits, ok, err := plate.Match(stars, list, 1000, near)
		if err != nil {
			t.Fatal(err)
		}
		if !ok {
			continue
		}
		names := map[int]int{}
		twice := false
		for _, h := range hits {
			names[h]++
			twice = twice || h >= 0 && names[h] > 1
		}
		if !twice {
			yes++
		}
		needProved(t, stars, list, f, hits, near, !twice)
	}
	if yes < 100 || yes > 2900 {
		t.Error("too few of one kind:", yes)
	}
	long := thrownPoints(dice, 5000, last)
	old, hits := slices.Clone(long), dice.Perm(5000)
	needProved(t, long, long, plate.Fit{Over: 1}, hits, last, true)
	needProved(t, long[:4999], long, plate.Fit{Over: 1}, hits[:4999], last, true)
	hits[4999] = hits[0]
	needProved(t, long, long, plate.Fit{Over: 1}, hits, last, false)
	if !slices.Equal(long, old) {
		t.Error("a list was changed")
	}
}
