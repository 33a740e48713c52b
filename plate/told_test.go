package plate_test

import (
	"math/big"
	"math/rand"
	"slices"
	"testing"

	"meridian/api"
	"meridian/plate"
)

const last = 1 << 18 // a point's greatest coordinate

func at(x, y int) api.Cell { return api.Cell{X: x, Y: y} }

// made points, by a rule that the values written out were reckoned by.
func made(n, seed, most int) []api.Cell {
	next := func() int {
		seed = (seed*1103515245 + 12345) % (1 << 31)
		return (seed >> 8) % (most + 1)
	}
	var l []api.Cell
	for range n {
		x := next()
		l = append(l, at(x, next()))
	}
	return l
}

func thrownPoints(dice *rand.Rand, n, most int) []api.Cell {
	var l []api.Cell
	for range n {
		l = append(l, at(dice.Intn(most+1), dice.Intn(most+1)))
	}
	return l
}

// noPoints: each coordinate wrong by itself.
func noPoints() []api.Cell {
	least, most := -1<<63, 1<<63-1
	var l []api.Cell
	for _, n := range []int{-1, last + 1, least, most} {
		l = append(l, at(n, 5), at(5, n), api.Cell{X: 5, Y: 5, Z: n})
	}
	return append(l, api.Cell{X: 5, Y: 5, Z: 1}, api.Cell{X: 5, Y: 5, Z: last})
}

func toldPoint(p api.Cell) bool {
	return min(p.X, p.Y) >= 0 && max(p.X, p.Y) <= last && p.Z == 0
}

// against the clock: 1; with it: -1; 0: in a line. By the areas below the sides.
func against(p [3]api.Cell) int {
	twice := 0
	for i := range p {
		a, b := p[i], p[(i+1)%3]
		twice += a.X*b.Y - b.X*a.Y
	}
	switch {
	case twice > 0:
		return 1
	case twice < 0:
		return -1
	}
	return 0
}

// sideAcross from a corner, squared.
func sideAcross(p [3]api.Cell, i int) int {
	far := 0
	for j := range p {
		for k := range j {
			if j != i && k != i {
				far += (p[j].X-p[k].X)*(p[j].X-p[k].X) + (p[j].Y-p[k].Y)*(p[j].Y-p[k].Y)
			}
		}
	}
	return far
}

// ranked corners: a corner comes behind all that are across longer sides, and behind those
// across sides as long that stand ahead of it.
func ranked(p [3]api.Cell) (sides [3]int, corners [3]api.Cell) {
	for i := range p {
		rank := 0
		for j := range p {
			a, b := sideAcross(p, i), sideAcross(p, j)
			if b > a || b == a && j < i {
				rank++
			}
		}
		sides[rank], corners[rank] = sideAcross(p, i), p[i]
	}
	return sides, corners
}

func toldOf(p [3]api.Cell) (plate.Shape, bool) {
	if !toldPoint(p[0]) || !toldPoint(p[1]) || !toldPoint(p[2]) || against(p) == 0 {
		return plate.Shape{}, false
	}
	sides, corners := ranked(p)
	s := plate.Shape{Long: sides[0], Middle: sides[1], Short: sides[2], Hand: against(corners)}
	if sides[0] == sides[1] || sides[1] == sides[2] {
		s.Hand = 0
	}
	return s, true
}

// toldAlike by fractions.
func toldAlike(a, b plate.Shape, k int) bool {
	if a.Hand != b.Hand {
		return false
	}
	near := func(m, l, n, o int) bool {
		off := new(big.Rat).Sub(big.NewRat(int64(m), int64(l)), big.NewRat(int64(n), int64(o)))
		return off.Abs(off).Cmp(big.NewRat(int64(k), 1000)) <= 0
	}
	return near(a.Middle, a.Long, b.Middle, b.Long) && near(a.Short, a.Long, b.Short, b.Long)
}

func bigs(l ...int) []*big.Int {
	var all []*big.Int
	for _, n := range l {
		all = append(all, big.NewInt(int64(n)))
	}
	return all
}

// determinant of three columns, in numbers of any size.
func determinant(a, b, c []*big.Int) *big.Int {
	sum := new(big.Int)
	for i := range 3 {
		there := new(big.Int).Mul(b[(i+1)%3], c[(i+2)%3])
		back := new(big.Int).Mul(b[(i+2)%3], c[(i+1)%3])
		sum.Add(sum, there.Sub(there, back).Mul(there, a[i]))
	}
	return sum
}

// toldSolve by Cramer's rule.
func toldSolve(from, to [3]api.Cell) (plate.Fit, bool) {
	for i := range from {
		if !toldPoint(from[i]) || !toldPoint(to[i]) {
			return plate.Fit{}, false
		}
	}
	x, y, one := bigs(from[0].X, from[1].X, from[2].X), bigs(from[0].Y, from[1].Y, from[2].Y), bigs(1, 1, 1)
	over := determinant(x, y, one)
	if over.Sign() == 0 {
		return plate.Fit{}, false
	}
	var all []*big.Int
	for _, u := range [][]*big.Int{bigs(to[0].X, to[1].X, to[2].X), bigs(to[0].Y, to[1].Y, to[2].Y)} {
		all = append(all, determinant(u, y, one), determinant(x, u, one), determinant(x, y, u))
	}
	all = append(all, over)
	common := new(big.Int)
	for _, n := range all {
		common.GCD(nil, nil, common, new(big.Int).Abs(n))
	}
	common.Mul(common, big.NewInt(int64(over.Sign())))
	var n [7]int
	for i := range n {
		n[i] = int(new(big.Int).Quo(all[i], common).Int64())
	}
	return plate.Fit{A: n[0], B: n[1], C: n[2], D: n[3], E: n[4], F: n[5], Over: n[6]}, true
}

// toldApply: the quotient is turned towards 0 first.
func toldApply(f plate.Fit, p api.Cell) api.Cell {
	along := func(a, b, c int) int {
		n := bigs(a, b, c, p.X, p.Y, f.Over, 1<<61, -1<<61)
		sum := new(big.Int).Add(n[0].Mul(n[0], n[3]), n[1].Mul(n[1], n[4]))
		sum.Add(sum, n[2])
		rest := new(big.Int)
		sum.QuoRem(sum, n[5], rest)
		if rest.Sign() < 0 {
			sum.Sub(sum, big.NewInt(1))
		}
		if sum.Cmp(n[6]) > 0 {
			sum = n[6]
		}
		if sum.Cmp(n[7]) < 0 {
			sum = n[7]
		}
		return int(sum.Int64())
	}
	return at(along(f.A, f.B, f.C), along(f.D, f.E, f.F))
}

func size(n int) int {
	if n < 0 {
		return -n
	}
	return n
}

// toldHits, and how many there are.
func toldHits(f plate.Fit, stars, list []api.Cell, near int) (hits []int, many int) {
	for _, s := range stars {
		q := toldApply(f, s)
		best, found := 1<<62, -1
		for i, p := range list {
			x, y := size(p.X-q.X), size(p.Y-q.Y)
			if max(x, y) <= near && x+y < best {
				best, found = x+y, i
			}
		}
		if found >= 0 {
			many++
		}
		hits = append(hits, found)
	}
	return hits, many
}

// told threes of points, as they stand, and their shapes.
type toldThree struct {
	points [3]api.Cell
	shape  plate.Shape
}

// toldThrees: all three points of a list that have a shape, rising ones or in any order.
func toldThrees(l []api.Cell, rising bool) []toldThree {
	var all []toldThree
	for i := range l {
		for j := range l {
			for k := range l {
				p := [3]api.Cell{l[i], l[j], l[k]}
				if s, ok := toldOf(p); ok && (!rising || i < j && j < k) {
					all = append(all, toldThree{p, s})
				}
			}
		}
	}
	return all
}

// cornerForCorner: of each two places, that of the longer side across is the same one here
// and there; of sides as long, the one ahead counts as the longer.
func cornerForCorner(from, to [3]api.Cell) bool {
	for j := range from {
		for i := range j {
			here := sideAcross(from, i) >= sideAcross(from, j)
			there := sideAcross(to, i) >= sideAcross(to, j)
			if here != there {
				return false
			}
		}
	}
	return true
}

// toldMatch goes through all orders of all points, and keeps all fits.
func toldMatch(stars, list []api.Cell, k, near int) (plate.Fit, []int, bool) {
	type found struct {
		hits []int
		many int
	}
	seen := map[plate.Fit]found{} // a fit that comes again hits the same
	var best plate.Fit
	threes := toldThrees(list, false)
	for _, from := range toldThrees(stars, true) {
		for _, to := range threes {
			if !cornerForCorner(from.points, to.points) || !toldAlike(from.shape, to.shape, k) {
				continue
			}
			f, _ := toldSolve(from.points, to.points)
			if _, again := seen[f]; again {
				continue
			}
			hits, many := toldHits(f, stars, list, near)
			seen[f] = found{hits, many}
			if many > seen[best].many {
				best = f
			}
		}
	}
	return best, seen[best].hits, len(seen) > 0
}

func needOf(t *testing.T, p [3]api.Cell, want plate.Shape, there bool) {
	t.Helper()
	if s, ok := plate.Of(p[0], p[1], p[2]); ok != there || s != want {
		t.Errorf("Of %v: %v, %v, want %v, %v", p, s, ok, want, there)
	}
}

func needAlike(t *testing.T, a, b plate.Shape, k int, want bool) {
	t.Helper()
	for _, s := range [][2]plate.Shape{{a, b}, {b, a}} {
		if ok, err := plate.Alike(s[0], s[1], k); err != nil || ok != want {
			t.Errorf("Alike of %v, %v, %d: %v, %v, want %v", s[0], s[1], k, ok, err, want)
		}
	}
}

func needSolve(t *testing.T, from, to [3]api.Cell, want plate.Fit, there bool) {
	t.Helper()
	if f, ok := plate.Solve(from, to); ok != there || f != want {
		t.Errorf("Solve of %v, %v: %v, %v, want %v, %v", from, to, f, ok, want, there)
	}
}

func needApply(t *testing.T, f plate.Fit, p, want api.Cell) {
	t.Helper()
	if q, err := f.Apply(p); err != nil || q != want {
		t.Errorf("%v of %v: %v, %v, want %v", f, p, q, err, want)
	}
}

func needMatch(t *testing.T, stars, list []api.Cell, k, near int, want plate.Fit, hits []int) {
	t.Helper()
	f, h, ok, err := plate.Match(stars, list, k, near)
	if err != nil || ok != (hits != nil) || f != want || !slices.Equal(h, hits) {
		t.Errorf("Match of %v, %v, %d, %d: %v, %v, %v, %v, want %v, %v", stars, list, k, near, f, h, ok, err, want, hits)
	}
}

func needWrongMatch(t *testing.T, stars, list []api.Cell, k, near int, want error) {
	t.Helper()
	f, h, ok, err := plate.Match(stars, list, k, near)
	if err != want || ok || f != (plate.Fit{}) || len(h) != 0 {
		t.Errorf("Match of %v, %v, %d, %d: %v, %v, %v, %v, want %v", stars, list, k, near, f, h, ok, err, want)
	}
}
