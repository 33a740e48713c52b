package plate_test

import (
	"math"
	"math/rand"
	"testing"

	"meridian/api"
	"meridian/plate"
)

// P141: fits, written out.
func TestKnownFits(t *testing.T) {
	for _, k := range []struct {
		seed, most int
		want       plate.Fit
	}{
		{1, 100, plate.Fit{-1237, 383, 116719, -1299, 69, 157125, 1926}},
		{2, 1000, plate.Fit{63096, -55741, -1995599, -46053, 53843, 4494882, 13655}},
		{3, 262144, plate.Fit{8216662622, -3131776137, 82565713918219, -3012410724, 246397446, 255078340654914, 1159284644}},
		{4, 9, plate.Fit{-8, 7, 46, 0, -12, 54, 6}},
		{5, 100, plate.Fit{-152, 732, -46174, -91, 189, -8102, 66}},
		{6, 1000, plate.Fit{-8697, 978, 3288503, -3354, 11876, -2365162, 6916}},
		{7, 262144, plate.Fit{9611400117, -173851206, 476830111384087, 9348195729, -2647889362, 256494561538279, 9639133045}},
		{8, 9, plate.Fit{3, 0, 14, -7, -35, 334, 5}},
		{9, 100, plate.Fit{-533, -1215, 161314, 1004, 2106, -126396, 1202}},
		{10, 1000, plate.Fit{5457, 12054, -10370010, 762, -8983, 7092605, 3819}},
		{11, 262144, plate.Fit{-59169088, -1125192442, 119145432186418, 134136864, -1295002355, 120758811279639, 333968096}},
		{12, 9, plate.Fit{-29, -22, 230, 40, 35, -285, 5}},
	} {
		l := made(6, k.seed, k.most)
		needSolve(t, [3]api.Cell(l[:3]), [3]api.Cell(l[3:]), k.want, true)
	}
}

// P141: small fits, and the greatest numbers of theirs.
func TestFitsOfFew(t *testing.T) {
	corner := [3]api.Cell{at(0, 0), at(1, 0), at(0, 1)}
	ends := [3]api.Cell{at(0, 0), at(last, 0), at(0, last)}
	for _, c := range []struct {
		from, to [3]api.Cell
		want     plate.Fit
	}{
		{corner, corner, plate.Fit{A: 1, E: 1, Over: 1}},
		{corner, [3]api.Cell{at(5, 7), at(6, 7), at(5, 8)}, plate.Fit{1, 0, 5, 0, 1, 7, 1}},
		{corner, [3]api.Cell{at(9, 9), at(9, 8), at(8, 9)}, plate.Fit{0, -1, 9, -1, 0, 9, 1}},
		// To points that are in a line, or one.
		{corner, [3]api.Cell{at(2, 1), at(4, 2), at(6, 3)}, plate.Fit{2, 4, 2, 1, 2, 1, 1}},
		{ends, [3]api.Cell{}, plate.Fit{Over: 1}},
		{ends, [3]api.Cell{at(6, 4), at(6, 4), at(6, 4)}, plate.Fit{C: 6, F: 4, Over: 1}},
		// What all seven have in common goes, and nothing else.
		{ends, corner, plate.Fit{A: 1, E: 1, Over: last}},
		{corner, ends, plate.Fit{A: last, E: last, Over: 1}},
		{[3]api.Cell{at(0, 0), at(6, 0), at(0, 6)}, [3]api.Cell{at(0, 0), at(4, 0), at(0, 4)}, plate.Fit{A: 2, E: 2, Over: 3}},
		{[3]api.Cell{at(0, 0), at(6, 0), at(0, 6)}, [3]api.Cell{at(1, 0), at(5, 0), at(1, 4)}, plate.Fit{A: 2, C: 3, E: 2, Over: 3}},
		{[3]api.Cell{at(0, 0), at(6, 0), at(0, 6)}, [3]api.Cell{at(0, 0), at(4, 0), at(0, 3)}, plate.Fit{A: 4, E: 3, Over: 6}},
		// A slant of one step, far out.
		{
			[3]api.Cell{at(last, last), at(0, 0), at(last, last-1)}, [3]api.Cell{at(0, last), at(last, 0), at(last, 0)},
			plate.Fit{last - 1, -last, last, 1 - last, last, 0, 1},
		},
	} {
		for _, p := range orders(at(0, 0), at(1, 1), at(2, 2)) { // the numbers of each order
			from := [3]api.Cell{c.from[p[0].X], c.from[p[1].X], c.from[p[2].X]}
			to := [3]api.Cell{c.to[p[0].X], c.to[p[1].X], c.to[p[2].X]}
			needSolve(t, from, to, c.want, true)
		}
	}
}

// P141: no fit, and what is no point.
func TestNoFit(t *testing.T) {
	corner := [3]api.Cell{at(0, 0), at(1, 0), at(0, 1)}
	for _, from := range [][3]api.Cell{
		{}, {at(3, 3), at(3, 3), at(4, 9)}, {at(4, 9), at(3, 3), at(4, 9)}, {at(0, 0), at(2, 2), at(last, last)},
		{at(5, 0), at(5, last), at(5, 9)}, {at(0, 5), at(last, 5), at(9, 5)}, {at(1, 1), at(3, 2), at(9, 5)},
	} {
		needSolve(t, from, corner, plate.Fit{}, false)
		needSolve(t, from, from, plate.Fit{}, false)
	}
	for _, wrong := range noPoints() {
		for i := range 3 {
			other := corner
			other[i] = wrong
			needSolve(t, other, corner, plate.Fit{}, false)
			needSolve(t, corner, other, plate.Fit{}, false)
			needSolve(t, other, other, plate.Fit{}, false)
		}
	}
}

// P141: fits of all kinds: they are the only ones, and take the three where they should.
func TestFits(t *testing.T) {
	dice := rand.New(rand.NewSource(141))
	for range 20000 {
		most := []int{2, 5, 60, 1000, last}[dice.Intn(5)]
		from, to := [3]api.Cell(thrownPoints(dice, 3, most)), [3]api.Cell(thrownPoints(dice, 3, most))
		f, ok := toldSolve(from, to)
		needSolve(t, from, to, f, ok)
		for i := range from {
			if ok {
				needApply(t, f, from[i], to[i])
			}
		}
	}
}

// P141: rounded down, also below 0; Z does not count, and is 0.
func TestApplyOfFew(t *testing.T) {
	half := plate.Fit{1, 0, 0, 0, 1, 0, 2}
	for _, c := range [][3]int{
		{-4, -2, 2}, {-3, -2, 1}, {-2, -1, 1}, {-1, -1, 0}, {0, 0, 0}, {1, 0, -1}, {2, 1, -1}, {3, 1, -2}, {4, 2, -2},
	} {
		x, want, turned := c[0], c[1], c[2]
		needApply(t, half, at(x, 7), at(want, 3))
		needApply(t, half, at(7, x), at(3, want))
		needApply(t, plate.Fit{0, 1, 0, 1, 0, 0, 2}, at(x, 7), at(3, want))
		needApply(t, plate.Fit{C: x, F: -x, Over: 2}, at(9, 9), at(want, turned))
		needApply(t, plate.Fit{A: -1, D: 1, Over: 2}, at(x, 9), at(turned, want))
		needApply(t, half, api.Cell{X: x, Y: x, Z: 5}, at(want, want))
	}
	needApply(t, plate.Fit{1, 2, 3, 4, 5, 6, 7}, at(8, 9), at(29/7, 83/7))
	needApply(t, plate.Fit{1, 2, -3, 4, -5, 6, 1}, at(8, 9), at(23, -7))
	needApply(t, plate.Fit{Over: math.MaxInt}, at(math.MaxInt, math.MinInt), at(0, 0))
}

// P141: more than 2^61 in size, at its edge and far beyond.
func TestApplyGreat(t *testing.T) {
	const end = 1 << 61
	for n, want := range map[int]int{
		end - 1: end - 1, end: end, end + 1: end, math.MaxInt: end,
		1 - end: 1 - end, -end: -end, -end - 1: -end, math.MinInt: -end,
	} {
		needApply(t, plate.Fit{C: n, F: n, Over: 1}, at(1, 1), at(want, want))
		needApply(t, plate.Fit{A: 1, E: 1, Over: 1}, at(n, n), at(want, want))
		needApply(t, plate.Fit{A: n, D: 1, Over: 1}, at(1, 1), at(want, 1))
		needApply(t, plate.Fit{B: n, E: n, Over: 1}, at(-7, 1), at(want, want))
	}
	// The quotient counts, not the sum; its part below 1 is gone ahead.
	needApply(t, plate.Fit{A: end, C: 3, D: -end, F: 3, Over: 4}, at(4, 0), at(end, -end))
	needApply(t, plate.Fit{A: end, C: -1, D: -end, F: 4, Over: 4}, at(4, 0), at(end-1, 1-end))
	needApply(t, plate.Fit{A: end, C: 4, D: -end, F: -1, Over: 4}, at(4, 0), at(end, -end))
	for _, x := range []int{math.MinInt, math.MaxInt} {
		for _, y := range []int{math.MinInt, math.MaxInt} {
			f := plate.Fit{math.MinInt, math.MinInt, math.MinInt, math.MaxInt, math.MaxInt, math.MaxInt, math.MaxInt}
			needApply(t, f, at(x, y), toldApply(f, at(x, y)))
		}
	}
	all := plate.Fit{math.MinInt, math.MinInt, math.MaxInt, math.MaxInt, math.MaxInt, math.MinInt, 1}
	needApply(t, all, at(math.MinInt, math.MinInt), at(end, -end))
	needApply(t, all, at(math.MaxInt, math.MaxInt), at(-end, end))
	needApply(t, all, at(math.MinInt, math.MaxInt), at(end, -end)) // -2^63 - 2^63, and 2^63 - 1
}

// P141: fits and points of all numbers.
func TestApply(t *testing.T) {
	dice := rand.New(rand.NewSource(1410))
	thrown := func() int {
		n := int(dice.Uint64() >> dice.Intn(64))
		if dice.Intn(2) == 0 {
			n = -n
		}
		return n
	}
	for range 20000 {
		f := plate.Fit{thrown(), thrown(), thrown(), thrown(), thrown(), thrown(), max(1, thrown())}
		p := at(thrown(), thrown())
		needApply(t, f, p, toldApply(f, p))
	}
}

// P141: nothing to divide by.
func TestApplyWrong(t *testing.T) {
	for _, over := range []int{0, -1, -2, math.MinInt} {
		q, err := plate.Fit{1, 2, 3, 4, 5, 6, over}.Apply(at(7, 8))
		if err != api.ErrShape || q != (api.Cell{}) {
			t.Error(over, q, err)
		}
	}
}
