package plate_test

import (
	"math"
	"math/rand"
	"slices"
	"testing"

	"meridian/api"
	"meridian/plate"
)

const widest = 1 << 40 // the greatest near

// P142: matches, written out.
func TestKnownMatches(t *testing.T) {
	for _, k := range []struct {
		stars, seed, points, most, k, near int
		want                               plate.Fit
		hits                               []int
	}{
		{3, 1, 3, 9, 1000, 0, plate.Fit{10, -8, 1, -12, 18, -9, 3}, []int{2, 1, 0}},
		{4, 2, 5, 9, 1000, 0, plate.Fit{3, 18, -15, -1, 14, 5, 20}, []int{4, 3, 2, 3}},
		{6, 3, 6, 9, 300, 1, plate.Fit{-1, -3, 42, 5, 3, 6, 6}, []int{2, 0, 1, 1, 0, 1}},
		{12, 5, 12, 9, 40, 0, plate.Fit{-3, -1, 40, 1, -3, 30, 10}, []int{6, -1, 8, 8, -1, 1, 6, 1, -1, 6, 1, 6}},
		{12, 4, 12, 9, 1000, 1, plate.Fit{-16, -13, 263, 10, 4, 211, 33}, []int{1, 2, 11, 2, 0, 6, 11, 11, 1, 1, 1, 2}},
		{12, 7, 12, 100, 60, 3, plate.Fit{85, 476, 112897, -500, 32, 275593, 3009}, []int{-1, 1, 1, 3, -1, -1, -1, 8, 8, -1, 3, 8}},
		{9, 8, 11, 1000, 100, 40, plate.Fit{-1466, -8497, 9734436, 4527, 3945, 1605666, 13389}, []int{1, 5, 10, -1, 9, 9, -1, 10, -1}},
		{12, 9, 12, last, 30, 9000, plate.Fit{231136356, -744210511, 169774571659204, 636407112, -32934553, 257440292147224, 2007903574}, []int{1, 0, 9, -1, 2, 6, 3, -1, 9, -1, 1, 0}},
		{12, 1, 12, last, 1000, 0, plate.Fit{-1811382020, 9947432323, 299951872459636, -18923049678, -8169359727, 4602799004695443, 8083823577}, []int{0, 2, 3, -1, -1, -1, -1, -1, -1, -1, -1, -1}},
		{12, 2, 12, last, 1000, widest, plate.Fit{-1023732607, 16923557453, 61057068530190, -16952208157, 2869704203, 4418033293690890, 16202102790}, []int{0, 11, 3, 4, 11, 8, 7, 2, 6, 6, 5, 4}},
		{10, 6, 12, 6, 0, 0, plate.Fit{3, 1, -6, -1, 3, 22, 10}, []int{4, 1, 9, 1, 9, 9, 1, 1, 4, 4}},
		{12, 11, 12, 4, 1000, 0, plate.Fit{-1, -3, 15, 1, -8, 29, 11}, []int{7, 7, 8, 5, 6, 5, 7, 7, 7, 5, 5, 7}},
		{8, 12, 12, 5, 200, 0, plate.Fit{-4, 1, 17, -1, -4, 68, 17}, []int{7, 7, 1, 1, 1, 7, 7, 0}},
		{5, 13, 9, 9, 0, 0, plate.Fit{}, nil},
		{5, 14, 6, 1000, 1, 5, plate.Fit{}, nil},
		{7, 15, 12, 12, 8, 2, plate.Fit{-1, 0, 13, 0, -1, 12, 1}, []int{11, 3, 0, 8, 1, 6, 9}},
		{12, 16, 3, 3, 1000, 0, plate.Fit{-1, 1, 6, -1, -3, 14, 4}, []int{0, 0, 1, 0, -1, 2, 1, 0, 0, 0, -1, 1}},
		{3, 17, 12, 3, 1000, 0, plate.Fit{}, nil},
		{4, 18, 6, 50, 1000, 0, plate.Fit{-352, 7, 23033, -138, -15, 16871, 347}, []int{1, 3, 0, -1}},
		{5, 19, 8, 50, 400, 2, plate.Fit{-156, -249, 19041, -67, -222, 11470, 579}, []int{3, 7, 1, 3, 7}},
	} {
		needMatch(t, made(k.stars, k.seed, k.most), made(k.points, k.seed+100, k.most), k.k, k.near, k.want, k.hits)
	}
}

// by takes all points of a list.
func by(f plate.Fit, l []api.Cell) []api.Cell {
	var moved []api.Cell
	for _, p := range l {
		moved = append(moved, toldApply(f, p))
	}
	return moved
}

// P142: a sky that is moved, turned, greater or smaller is known again; turned over it is not.
func TestKnownSky(t *testing.T) {
	sky := []api.Cell{at(100, 200), at(900, 300), at(400, 700), at(600, 1000), at(150, 800), at(1000, 950)}
	hits := []int{0, 1, 2, 3, 4, 5}
	for _, c := range []struct{ there, back plate.Fit }{
		{plate.Fit{1, 0, 0, 0, 1, 0, 1}, plate.Fit{1, 0, 0, 0, 1, 0, 1}},
		{plate.Fit{1, 0, 30, 0, 1, -70, 1}, plate.Fit{1, 0, -30, 0, 1, 70, 1}},
		{plate.Fit{0, -1, 1000, 1, 0, 0, 1}, plate.Fit{0, 1, 0, -1, 0, 1000, 1}},
		{plate.Fit{-1, 0, 1000, 0, -1, 1000, 1}, plate.Fit{-1, 0, 1000, 0, -1, 1000, 1}},
		{plate.Fit{3, 0, 7, 0, 3, 9, 1}, plate.Fit{1, 0, -7, 0, 1, -9, 3}},
		{plate.Fit{1, 0, 0, 0, 1, 0, 50}, plate.Fit{50, 0, 0, 0, 50, 0, 1}},
		{plate.Fit{3, -4, 5000, 4, 3, 0, 5}, plate.Fit{3, 4, -3000, -4, 3, 4000, 5}},
	} {
		needMatch(t, by(c.there, sky), sky, 0, 0, c.back, hits)
	}
	over := by(plate.Fit{0, 1, 0, 1, 0, 0, 1}, sky)
	needMatch(t, over, sky, 0, 1000, plate.Fit{}, nil)
	// Stars and points beside them: the numbers are those of the lists.
	stars := append([]api.Cell{at(3, 3), at(77, 1)}, sky[2:]...)
	needMatch(t, stars, sky, 0, 0, plate.Fit{1, 0, 0, 0, 1, 0, 1}, []int{-1, -1, 2, 3, 4, 5})
	needMatch(t, sky, stars, 0, 0, plate.Fit{1, 0, 0, 0, 1, 0, 1}, []int{-1, -1, 2, 3, 4, 5})
	// A star that is seen a little beside its place.
	sky[1] = at(903, 296)
	known := slices.Clone(sky)
	known[1] = at(900, 300)
	needMatch(t, sky, known, 0, 3, plate.Fit{1, 0, 0, 0, 1, 0, 1}, []int{0, -1, 2, 3, 4, 5})
	needMatch(t, sky, known, 0, 4, plate.Fit{1, 0, 0, 0, 1, 0, 1}, hits)
}

// P142: where two sides are as long, both ways of putting the corners are looked at, in the
// order as they stand.
func TestMatchTwoSides(t *testing.T) {
	same := plate.Fit{1, 0, 0, 0, 1, 0, 1}
	over := plate.Fit{0, 1, 0, 1, 0, 0, 1}
	stars := []api.Cell{at(0, 0), at(4, 0), at(0, 4)}
	needMatch(t, stars, stars, 0, 0, same, []int{0, 1, 2})
	needMatch(t, stars, []api.Cell{at(0, 4), at(4, 0), at(0, 0)}, 0, 0, over, []int{2, 0, 1})
	needMatch(t, stars, []api.Cell{at(0, 4), at(0, 0), at(4, 0)}, 0, 0, over, []int{1, 0, 2})
	needMatch(t, stars, []api.Cell{at(4, 0), at(0, 0), at(0, 4)}, 0, 0, same, []int{1, 0, 2})
	// One star more tells which way it is.
	more := append(slices.Clone(stars), at(1, 0))
	needMatch(t, more, append(slices.Clone(stars), at(1, 0)), 0, 0, same, []int{0, 1, 2, 3})
	needMatch(t, more, append(slices.Clone(stars), at(0, 1)), 0, 0, over, []int{0, 2, 1, 3})
	needMatch(t, more, []api.Cell{at(0, 1), at(4, 0), at(0, 4), at(0, 0)}, 0, 0, over, []int{3, 2, 1, 0})
	// Two sides as long, the longest ones here, the shortest ones there.
	tall, flat := []api.Cell{at(0, 0), at(6, 0), at(3, 9)}, []api.Cell{at(0, 0), at(3, 1), at(6, 0)}
	needMatch(t, tall, flat, 722, 0, plate.Fit{}, nil)
	f, _ := toldSolve([3]api.Cell(tall), [3]api.Cell{flat[1], flat[0], flat[2]})
	needMatch(t, tall, flat, 723, 0, f, []int{1, 0, 2})
	// A star more by which the second way is the better one.
	f, _ = toldSolve([3]api.Cell(tall), [3]api.Cell{flat[1], flat[2], flat[0]})
	tall, flat = append(tall, at(3, 0)), append(flat, toldApply(f, at(3, 0)))
	fit, hits, ok := toldMatch(tall, flat, 1000, 0)
	if !ok || fit != f {
		t.Error("the second way is not the better one", fit, f)
	}
	needMatch(t, tall, flat, 1000, 0, f, hits)
}

// P142: of fits as good the first one, by stars, then by points.
func TestMatchFirst(t *testing.T) {
	three := []api.Cell{at(0, 0), at(3, 0), at(0, 4)}
	moved := func(x, y int) []api.Cell { return by(plate.Fit{1, 0, x, 0, 1, y, 1}, three) }
	twice := slices.Concat(three, moved(50, 70))
	needMatch(t, three, twice, 0, 0, plate.Fit{1, 0, 0, 0, 1, 0, 1}, []int{0, 1, 2})
	needMatch(t, three, slices.Concat(moved(50, 70), three), 0, 0, plate.Fit{1, 0, 50, 0, 1, 70, 1}, []int{0, 1, 2})
	needMatch(t, slices.Concat(moved(50, 70), moved(200, 3)), three, 0, 0, plate.Fit{1, 0, -50, 0, 1, -70, 1}, []int{0, 1, 2, -1, -1, -1})
	// The point on the first star counts first, not the least number of three points.
	list := slices.Concat([]api.Cell{at(0, 14), at(90, 90)}, moved(50, 70), []api.Cell{at(3, 10), at(0, 10)})
	needMatch(t, three, list, 0, 0, plate.Fit{1, 0, 50, 0, 1, 70, 1}, []int{2, 3, 4})
	// One that hits more is better, wherever it stands.
	needMatch(t, append(slices.Clone(three), at(1, 1)), append(slices.Clone(twice), at(51, 71)), 0, 0, plate.Fit{1, 0, 50, 0, 1, 70, 1}, []int{3, 4, 5, 6})
	// Points that are there twice: the first of them is hit.
	needMatch(t, three, slices.Concat(three, three), 0, 0, plate.Fit{1, 0, 0, 0, 1, 0, 1}, []int{0, 1, 2})
	needMatch(t, slices.Concat(three, three), three, 0, 0, plate.Fit{1, 0, 0, 0, 1, 0, 1}, []int{0, 1, 2, 0, 1, 2})
}

// P142: points are taken in the order in which they go with the stars, corner for corner.
func TestMatchInOrder(t *testing.T) {
	slanted := []api.Cell{at(0, 0), at(3, 0), at(0, 1)}
	list := []api.Cell{at(10, 10), at(7, 11), at(13, 10), at(7, 10), at(10, 11)}
	needMatch(t, slanted, list, 0, 0, plate.Fit{1, 0, 10, 0, 1, 10, 1}, []int{0, 2, 4})
	far := []api.Cell{at(200007, 200017), at(200009, 200017), at(200008, 200017), at(200008, 200016)}
	list = []api.Cell{at(1, 1), at(1, 2), at(1, 0), at(0, 1), at(2, 2)}
	needMatch(t, far, list, 5, 50, plate.Fit{1, 1, -400022, 1, -1, 12, 2}, []int{0, 4, 0, 1})
}

// P142: of two skies that are the same, moved, the one whose point on the first star has
// the lesser number, whichever order stars and points are in; where two sides are as long,
// then the lesser number on the second star, then on the third.
func TestMatchFirstOfTwoSkies(t *testing.T) {
	dice := rand.New(rand.NewSource(14200))
	for _, three := range [][3]api.Cell{{at(0, 0), at(3, 0), at(0, 4)}, {at(9, 2), at(0, 0), at(1, 5)}, {at(0, 0), at(4, 0), at(0, 4)}, {at(0, 0), at(6, 0), at(3, 9)}} {
		for _, stars := range orders(three[0], three[1], three[2]) {
			for range 20 {
				list := slices.Concat(by(plate.Fit{1, 0, 40, 0, 1, 3, 1}, three[:]), by(plate.Fit{0, -1, 90, 1, 0, 90, 1}, three[:]))
				dice.Shuffle(len(list), func(i, j int) { list[i], list[j] = list[j], list[i] })
				f, hits := firstSame(stars, list)
				needMatch(t, stars[:], list, 0, 0, f, hits)
			}
		}
	}
}

// firstSame: the first three points that are as far from each other as three stars are, each
// from each, and go around as they do, unless two sides are as long.
func firstSame(stars [3]api.Cell, list []api.Cell) (plate.Fit, []int) {
	sides := func(p [3]api.Cell) [3]int { return [3]int{sideAcross(p, 0), sideAcross(p, 1), sideAcross(p, 2)} }
	shape, _ := toldOf(stars)
	for i, a := range list {
		for j, b := range list {
			for k, c := range list {
				p := [3]api.Cell{a, b, c}
				if sides(p) == sides(stars) && (shape.Hand == 0 || against(p) == against(stars)) {
					f, _ := toldSolve(stars, p)
					return f, []int{i, j, k}
				}
			}
		}
	}
	return plate.Fit{}, nil
}

// P142: two sides as long, the longest ones of one three and the shortest ones of the other:
// corners across sides as long have their ranks in the order as they stand, so only where
// the stars stand by their ranks do points go with them.
func TestMatchOtherTwoSides(t *testing.T) {
	tall, flat := [3]api.Cell{at(0, 0), at(6, 0), at(3, 9)}, [3]api.Cell{at(3, 1), at(0, 0), at(6, 0)}
	for _, c := range [][2][3]api.Cell{{tall, flat}, {flat, tall}} {
		for _, stars := range orders(c[0][0], c[0][1], c[0][2]) {
			for _, list := range orders(c[1][0], c[1][1], c[1][2]) {
				_, byRank := ranked(stars)
				if stars != byRank {
					needMatch(t, stars[:], list[:], 1000, widest, plate.Fit{}, nil)
					continue
				}
				_, points := ranked(list)
				f, _ := toldSolve(stars, points)
				hits := []int{slices.Index(list[:], points[0]), slices.Index(list[:], points[1]), slices.Index(list[:], points[2])}
				needMatch(t, stars[:], list[:], 1000, 0, f, hits)
			}
		}
	}
}

// P142: what a star hits: near along both axes, the nearest by both together, the first one.
func TestMatchHits(t *testing.T) {
	three := []api.Cell{at(0, 100), at(300, 100), at(0, 500)}
	same := plate.Fit{1, 0, 0, 0, 1, 0, 1}
	for _, c := range []struct {
		near int
		list []api.Cell
		hit  int
	}{
		{0, nil, -1},
		{0, []api.Cell{at(150, 900)}, 3},
		{0, []api.Cell{at(151, 900)}, -1},
		{0, []api.Cell{at(150, 899)}, -1},
		{5, []api.Cell{at(155, 895)}, 3},
		{5, []api.Cell{at(145, 905)}, 3},
		{5, []api.Cell{at(156, 900)}, -1},
		{5, []api.Cell{at(144, 900)}, -1},
		{5, []api.Cell{at(150, 906)}, -1},
		{5, []api.Cell{at(150, 894)}, -1},
		// One that is nearer by both together, but not near along one.
		{5, []api.Cell{at(156, 900), at(155, 895)}, 4},
		{5, []api.Cell{at(155, 905), at(150, 906)}, 3},
		// The nearest, not by the greater of both, nor by squares.
		{9, []api.Cell{at(153, 903), at(155, 900)}, 4},
		{9, []api.Cell{at(154, 904), at(157, 900), at(150, 908)}, 4},
		{9, []api.Cell{at(157, 900), at(154, 904)}, 3},
		{9, []api.Cell{at(155, 900), at(150, 895), at(152, 903)}, 3},
		{9, []api.Cell{at(152, 903), at(150, 895), at(155, 900)}, 3},
		{9, []api.Cell{at(159, 909), at(152, 903), at(150, 900)}, 5},
	} {
		list := slices.Concat(three, c.list)
		f, hits, ok, err := plate.Match(append(slices.Clone(three), at(150, 900)), list, 0, c.near)
		want := []int{0, 1, 2, c.hit}
		if err != nil || !ok || f != same || !slices.Equal(hits, want) {
			t.Errorf("%v, %d: %v, %v, %v, %v, want %v", c.list, c.near, f, hits, ok, err, want)
		}
	}
	// As far as near can be: each star hits, where it is taken, by however small a triangle.
	small := []api.Cell{at(0, 0), at(1, 0), at(0, 1), at(last, last)}
	great := []api.Cell{at(0, 0), at(last, 0), at(0, last)}
	needMatch(t, small, great, 0, widest, plate.Fit{A: last, E: last, Over: 1}, []int{0, 1, 2, 1})
	needMatch(t, small, great, 0, last*last-1, plate.Fit{A: last, E: last, Over: 1}, []int{0, 1, 2, -1})
	needMatch(t, small, great, 0, last*last, plate.Fit{A: last, E: last, Over: 1}, []int{0, 1, 2, 1})
}

// P142: nothing that is alike.
func TestNoMatch(t *testing.T) {
	three := []api.Cell{at(0, 0), at(3, 0), at(0, 4)}
	line := []api.Cell{at(0, 0), at(1, 1), at(2, 2), at(3, 3), at(3, 3)}
	for _, l := range [][]api.Cell{
		nil, {}, three[:1], three[:2], line, {at(5, 5), at(5, 5), at(9, 9)},
		{at(0, 0), at(4, 0), at(0, 3)}, {at(0, 0), at(4, 0), at(0, 4)}, {at(0, 0), at(3, 0), at(0, 5)},
	} {
		needMatch(t, three, l, 0, widest, plate.Fit{}, nil)
		needMatch(t, l, three, 0, widest, plate.Fit{}, nil)
	}
	needMatch(t, nil, nil, 1000, widest, plate.Fit{}, nil)
	needMatch(t, line, line, 1000, widest, plate.Fit{}, nil)
	// The tolerance counts: 16 of 25 here, 25 of 34 there, 9 of each.
	long := []api.Cell{at(0, 0), at(3, 0), at(0, 5)}
	needMatch(t, three, long, 95, 0, plate.Fit{}, nil)
	needMatch(t, three, long, 96, 0, plate.Fit{4, 0, 0, 0, 5, 0, 4}, []int{0, 1, 2})
}

// P142, P4: lists of all kinds; they stay as they are, and so does what lies behind them.
func TestMatch(t *testing.T) {
	dice := rand.New(rand.NewSource(142))
	found := 0
	for range 1500 {
		most := []int{2, 3, 6, 20, 500, last}[dice.Intn(6)]
		stars, list := thrownPoints(dice, 3+dice.Intn(4), most), thrownPoints(dice, 3+dice.Intn(5), most)
		oldStars, oldList := slices.Clone(stars), slices.Clone(list)
		k, near := []int{0, 5, 100, 400, 1000}[dice.Intn(5)], []int{0, 1, 3, most / 9, widest}[dice.Intn(5)]
		s, l := stars[:len(stars)-1], list[:len(list)-1]
		f, hits, ok := toldMatch(s, l, k, near)
		needMatch(t, s, l, k, near, f, hits)
		if ok {
			found++
		}
		if !slices.Equal(stars, oldStars) || !slices.Equal(list, oldList) {
			t.Fatal("a list was changed")
		}
	}
	if found < 300 {
		t.Error("too few were found:", found)
	}
}

// P142: as many as there may be, and grids, of which many threes are as good.
func TestMatchMany(t *testing.T) {
	dice := rand.New(rand.NewSource(1420))
	grid := func(wide int) []api.Cell {
		var l []api.Cell
		for i := range 12 {
			l = append(l, at(i%wide*7, i/wide*7))
		}
		dice.Shuffle(12, func(i, j int) { l[i], l[j] = l[j], l[i] })
		return l
	}
	for _, c := range [][2][]api.Cell{
		{grid(3), grid(4)}, {grid(4)[:7], grid(6)}, {grid(2), grid(5)[:8]},
		{thrownPoints(dice, 12, last), thrownPoints(dice, 5, last)}, {thrownPoints(dice, 5, last), thrownPoints(dice, 12, last)},
	} {
		for _, k := range []int{0, 300} {
			f, hits, _ := toldMatch(c[0], c[1], k, 1)
			needMatch(t, c[0], c[1], k, 1, f, hits)
		}
	}
}

// P142: what is wrong, the first of it.
func TestMatchWrong(t *testing.T) {
	good := []api.Cell{at(0, 0), at(3, 0), at(0, 4), at(last, last)}
	long := slices.Repeat(good, 4)[:13]
	for _, k := range []int{-1, 0, 1000, 1001} {
		for _, near := range []int{-1, 0, widest, widest + 1} {
			needWrongMatch(t, long, good, k, near, api.ErrBound)
			needWrongMatch(t, good, long, k, near, api.ErrBound)
			needWrongMatch(t, long, nil, k, near, api.ErrBound)
			needWrongMatch(t, nil, long, k, near, api.ErrBound)
			for _, wrong := range noPoints() {
				for i := range good {
					bad := slices.Clone(good)
					bad[i] = wrong
					needWrongMatch(t, bad, good, k, near, api.ErrBound)
					needWrongMatch(t, good, bad, k, near, api.ErrBound)
					needWrongMatch(t, nil, bad[i:i+1], k, near, api.ErrBound)
				}
			}
		}
	}
	for _, k := range []int{math.MinInt, -1, 1001, math.MaxInt} {
		needWrongMatch(t, good, good, k, 0, api.ErrShape)
		needWrongMatch(t, nil, nil, k, 0, api.ErrShape)
	}
	for _, near := range []int{math.MinInt, -1, widest + 1, math.MaxInt} {
		needWrongMatch(t, good, good, 0, near, api.ErrShape)
		needWrongMatch(t, nil, nil, 0, near, api.ErrShape)
	}
	// Twelve of each are not too many.
	f, hits, _ := toldMatch(long[:12], good, 0, 0)
	needMatch(t, long[:12], good, 0, 0, f, hits)
	f, hits, _ = toldMatch(good, long[:12], 0, 0)
	needMatch(t, good, long[:12], 0, 0, f, hits)
}

// P4: what is told is new memory.
func TestMatchMemory(t *testing.T) {
	l := []api.Cell{at(0, 0), at(3, 0), at(0, 4)}
	_, hits, _, err := plate.Match(l, l, 0, 0)
	if err != nil || len(hits) != 3 {
		t.Fatal(hits, err)
	}
	hits[0] = 77
	needMatch(t, l, l, 0, 0, plate.Fit{1, 0, 0, 0, 1, 0, 1}, []int{0, 1, 2})
}
