package plate_test

import (
	"math"
	"math/rand"
	"testing"

	"meridian/api"
	"meridian/plate"
)

// orders of three points.
func orders(a, b, c api.Cell) [][3]api.Cell {
	return [][3]api.Cell{{a, b, c}, {a, c, b}, {b, a, c}, {b, c, a}, {c, a, b}, {c, b, a}}
}

// P140: shapes, written out.
func TestKnownShapes(t *testing.T) {
	for _, k := range []struct {
		seed, most int
		want       plate.Shape
	}{
		{1, 100, plate.Shape{8100, 4034, 1370, -1}},
		{2, 1000, plate.Shape{193492, 121298, 13298, 1}},
		{3, 262144, plate.Shape{49600058517, 20791016197, 6543125584, 1}},
		{4, 9, plate.Shape{41, 20, 9, -1}},
		{5, 100, plate.Shape{6408, 5584, 40, -1}},
		{6, 1000, plate.Shape{78608, 63157, 1525, 1}},
		{7, 262144, plate.Shape{36003021370, 30628549825, 3076635965, 1}},
		{8, 9, plate.Shape{26, 25, 1, -1}},
		{9, 100, plate.Shape{4040, 3706, 1682, 1}},
		{10, 1000, plate.Shape{21265, 18580, 14409, 1}},
		{11, 262144, plate.Shape{41470688516, 16201749392, 5985594180, -1}},
		{12, 9, plate.Shape{85, 50, 5, -1}},
		{13, 100, plate.Shape{9153, 2785, 2146, -1}},
		{14, 1000, plate.Shape{58770, 33301, 15205, -1}},
		{15, 262144, plate.Shape{75266041258, 29535840625, 24451954313, -1}},
		{16, 9, plate.Shape{4, 2, 2, 0}},
	} {
		needOf(t, [3]api.Cell(made(3, k.seed, k.most)), k.want, true)
	}
}

// P140: each order of three points has one shape; turned over, it has the other hand.
func TestShapesOfFew(t *testing.T) {
	for _, c := range []struct {
		a, b, c api.Cell
		want    plate.Shape
	}{
		{at(0, 0), at(3, 0), at(0, 4), plate.Shape{25, 16, 9, 1}},
		{at(0, 0), at(4, 0), at(0, 3), plate.Shape{25, 16, 9, -1}},
		{at(7, 7), at(4, 7), at(7, 3), plate.Shape{25, 16, 9, 1}},
		{at(0, 0), at(1, 0), at(0, 1), plate.Shape{2, 1, 1, 0}},
		{at(0, 0), at(2, 0), at(1, 9), plate.Shape{82, 82, 4, 0}},
		{at(0, 0), at(18, 0), at(9, 1), plate.Shape{324, 82, 82, 0}},
		{at(0, 0), at(7, 1), at(5, 5), plate.Shape{50, 50, 20, 0}},
		// The greatest ones, and the flattest.
		{at(0, 0), at(last, 0), at(0, last), plate.Shape{1 << 37, 1 << 36, 1 << 36, 0}},
		{at(0, 0), at(last, last), at(0, last-1), plate.Shape{1 << 37, 1<<36 + 1, (last - 1) * (last - 1), 1}},
		{at(0, 0), at(last, last), at(last-1, last), plate.Shape{1 << 37, 1<<37 - 2*last + 1, 1, -1}},
		{at(0, 0), at(last, last), at(last, last-1), plate.Shape{1 << 37, 1<<37 - 2*last + 1, 1, 1}},
	} {
		turn := func(p api.Cell) api.Cell { return at(p.Y, p.X) }
		other := c.want
		other.Hand = -other.Hand
		for _, p := range orders(c.a, c.b, c.c) {
			needOf(t, p, c.want, true)
		}
		for _, p := range orders(turn(c.a), turn(c.b), turn(c.c)) {
			needOf(t, p, other, true)
		}
	}
}

// P140: what has no shape: points that are one, or in a line, and what is no point.
func TestNoShape(t *testing.T) {
	for _, c := range [][3]api.Cell{
		{}, {at(5, 5), at(5, 5), at(5, 5)}, {at(0, 0), at(0, 0), at(3, 4)}, {at(0, 0), at(last, last), at(last, last)},
		{at(0, 0), at(1, 1), at(5, 5)}, {at(0, 7), at(3, 7), at(last, 7)}, {at(7, 0), at(7, 3), at(7, last)},
		{at(0, 9), at(3, 6), at(9, 0)}, {at(0, 0), at(last/2, last/2), at(last, last)}, {at(1, 1), at(3, 2), at(9, 5)},
	} {
		for _, p := range orders(c[0], c[1], c[2]) {
			needOf(t, p, plate.Shape{}, false)
		}
	}
	for _, wrong := range noPoints() {
		for _, p := range orders(at(0, 0), at(1, 8), wrong) {
			needOf(t, p, plate.Shape{}, false)
		}
		needOf(t, [3]api.Cell{wrong, wrong, wrong}, plate.Shape{}, false)
	}
}

// P140: shapes of all kinds.
func TestShapes(t *testing.T) {
	dice := rand.New(rand.NewSource(140))
	for range 20000 {
		p := [3]api.Cell(thrownPoints(dice, 3, []int{2, 4, 10, 1000, last}[dice.Intn(5)]))
		s, ok := toldOf(p)
		needOf(t, p, s, ok)
	}
}

// P140: within a tolerance, and just out of it.
func TestAlikeOfFew(t *testing.T) {
	const most = 1 << 38
	a := plate.Shape{1000, 500, 300, 1}
	for _, c := range []struct {
		a, b plate.Shape
		k    int
		want bool
	}{
		{a, a, 0, true},
		{a, plate.Shape{10, 5, 3, 1}, 0, true},
		{a, plate.Shape{1000, 501, 300, 1}, 0, false},
		{a, plate.Shape{1000, 500, 299, 1}, 0, false},
		{a, plate.Shape{1000, 510, 300, 1}, 10, true},
		{a, plate.Shape{1000, 490, 300, 1}, 10, true},
		{a, plate.Shape{1000, 510, 300, 1}, 9, false},
		{a, plate.Shape{1000, 490, 300, 1}, 9, false},
		{a, plate.Shape{1000, 500, 310, 1}, 10, true},
		{a, plate.Shape{1000, 500, 290, 1}, 10, true},
		{a, plate.Shape{1000, 500, 311, 1}, 10, false},
		{a, plate.Shape{1000, 500, 289, 1}, 10, false},
		{a, plate.Shape{2000, 1021, 600, 1}, 10, false},
		{a, plate.Shape{2000, 1020, 620, 1}, 10, true},
		// The hand counts, whatever the tolerance.
		{a, plate.Shape{1000, 500, 300, -1}, 1000, false},
		{a, plate.Shape{1000, 500, 300, 0}, 1000, false},
		{plate.Shape{5, 5, 5, 0}, plate.Shape{5, 5, 5, -1}, 1000, false},
		// A hand goes with any sides.
		{plate.Shape{5, 5, 5, 1}, plate.Shape{5, 4, 3, 1}, 400, true},
		{plate.Shape{5, 5, 5, -1}, plate.Shape{5, 4, 3, -1}, 399, false},
		// By a whole side nothing differs.
		{plate.Shape{most, 1, 1, 0}, plate.Shape{1, 1, 1, 0}, 1000, true},
		{plate.Shape{most, 1, 1, 0}, plate.Shape{1, 1, 1, 0}, 999, false},
		// Products of more than a word, by one more or less.
		{plate.Shape{most, most, most / 2, 1}, plate.Shape{most, most / 2, most / 2, 1}, 500, true},
		{plate.Shape{most, most, most / 2, 1}, plate.Shape{most, most/2 - 1, most/2 - 1, 1}, 500, false},
		{plate.Shape{most, most, most, 1}, plate.Shape{most, most, most / 2, 1}, 500, true},
		{plate.Shape{most, most, most, 1}, plate.Shape{most, most, most/2 - 1, 1}, 500, false},
		{plate.Shape{most, most - 1, 1, 1}, plate.Shape{most - 1, most - 2, 1, 1}, 0, false},
		{plate.Shape{most, most - 1, 1, 1}, plate.Shape{most - 1, most - 2, 1, 1}, 1, true},
		{plate.Shape{most, most, 2, 0}, plate.Shape{most / 2, most / 2, 1, 0}, 0, true},
	} {
		needAlike(t, c.a, c.b, c.k, c.want)
	}
}

// thrownShape: sides in their order, whether there is such a triangle or not.
func thrownShape(dice *rand.Rand, hand int) plate.Shape {
	most := []int{5, 100, 1 << 20, 1 << 38}[dice.Intn(4)]
	long := 1 + dice.Intn(most)
	middle := 1 + dice.Intn(long)
	return plate.Shape{long, middle, 1 + dice.Intn(middle), hand}
}

// P140: shapes of all kinds, held against each other by fractions.
func TestAlike(t *testing.T) {
	dice := rand.New(rand.NewSource(1400))
	alike := 0
	for range 20000 {
		hand := dice.Intn(3) - 1
		a, b := thrownShape(dice, hand), thrownShape(dice, hand)
		k := dice.Intn(1001)
		if dice.Intn(2) == 0 { // near the edge
			off := max(size(a.Middle*1000/a.Long-b.Middle*1000/b.Long), size(a.Short*1000/a.Long-b.Short*1000/b.Long))
			k = min(1000, max(0, off+dice.Intn(3)-1))
		}
		want := toldAlike(a, b, k)
		if want {
			alike++
		}
		needAlike(t, a, b, k, want)
	}
	if alike < 5000 || alike > 15000 {
		t.Error("too few of one kind:", alike)
	}
}

// P140: what is no shape, and no tolerance.
func TestAlikeWrong(t *testing.T) {
	good := plate.Shape{25, 16, 9, 1}
	need := func(a, b plate.Shape, k int) {
		t.Helper()
		if ok, err := plate.Alike(a, b, k); err != api.ErrShape || ok {
			t.Errorf("Alike of %v, %v, %d: %v, %v", a, b, k, ok, err)
		}
	}
	for _, k := range []int{math.MinInt, -1, 1001, math.MaxInt} {
		need(good, good, k)
	}
	for _, bad := range []plate.Shape{
		{}, {25, 16, 0, 1}, {25, 16, -9, 1}, {25, 0, 0, 0}, {25, 26, 9, 1}, {25, 16, 17, 1}, {9, 16, 25, 1},
		{-9, -16, -25, 1}, {25, 16, 9, 2}, {25, 16, 9, -2}, {1<<38 + 1, 16, 9, 1}, {1<<38 + 1, 1<<38 + 1, 1<<38 + 1, 0},
		{math.MaxInt, math.MaxInt, math.MaxInt, 1}, {math.MaxInt, 1, math.MinInt, 0}, {25, 16, 9, math.MinInt}, {25, 16, 9, math.MaxInt},
	} {
		for _, k := range []int{-1, 0, 500, 1000, 1001} {
			need(good, bad, k)
			need(bad, good, k)
			need(bad, bad, k)
		}
	}
}
