package plate

import (
	"slices"

	"meridian/api"
)

const (
	mostPoints = 12      // of a list
	widest     = 1 << 40 // how near may be told
	missed     = -1      // the hit of a star that has none
)

func isDistance(near int) bool { return near >= 0 && near <= widest }

func arePoints(l []api.Cell) bool {
	return len(l) <= mostPoints && !slices.ContainsFunc(l, func(p api.Cell) bool { return !isPoint(p) })
}

// A triangle: its shape, its corners as they stand, and their places by their ranks.
type triangle struct {
	Shape
	corners [3]api.Cell
	ranked  [3]int
}

// goesWith another one: alike, and the corners that stand at the same place are of the same
// rank, so that an order of three points is one way of putting them on three stars, or none.
func (t triangle) goesWith(other triangle, k int) bool {
	return t.ranked == other.ranked && alike(t.Shape, other.Shape, k)
}

// triangles of a list's points by their numbers, the first ones first, of such orders as
// are wanted.
func triangles(l []api.Cell, wanted func(a, b, c int) bool) []triangle {
	var all []triangle
	eachThree(len(l), func(a, b, c int) {
		s, ok := Of(l[a], l[b], l[c])
		if ok && wanted(a, b, c) {
			three := [3]api.Cell{l[a], l[b], l[c]}
			all = append(all, triangle{s, three, places(cornersOf(three))})
		}
	})
	return all
}

// eachThree different numbers below n, in any order, the first ones first.
func eachThree(n int, do func(a, b, c int)) {
	for a := range n {
		for b := range n {
			for c := range n {
				if a != b && a != c && b != c {
					do(a, b, c)
				}
			}
		}
	}
}

// bestFit: the first one of those by which most stars hit.
func bestFit(stars, list []api.Cell, k, near int) (best Fit, ok bool) {
	seen := triangles(stars, func(a, b, c int) bool { return a < b && b < c })
	known := triangles(list, func(a, b, c int) bool { return true })
	most := -1
	for _, s := range seen {
		for _, p := range known {
			if !s.goesWith(p, k) {
				continue
			}
			f := fitOf(s.corners, p.corners)
			if n := countHits(f, stars, list, near); n > most {
				best, most = f, n
			}
		}
	}
	return best, most >= 0
}

func countHits(f Fit, stars, list []api.Cell, near int) int {
	count := 0
	for _, s := range stars {
		if hit(f.takes(s), list, near) != missed {
			count++
		}
	}
	return count
}

func hitsOf(f Fit, stars, list []api.Cell, near int) []int {
	hits := make([]int, len(stars))
	for i, s := range stars {
		hits[i] = hit(f.takes(s), list, near)
	}
	return hits
}

// hit of a star that is taken there: the number of the nearest point that is near enough.
func hit(at api.Cell, list []api.Cell, near int) int {
	best, least := missed, 0
	for i, p := range list {
		way := gap(at.X, p.X) + gap(at.Y, p.Y)
		if isNear(at, p, near) && (best == missed || way < least) {
			best, least = i, way
		}
	}
	return best
}

func isNear(a, b api.Cell, near int) bool {
	return gap(a.X, b.X) <= near && gap(a.Y, b.Y) <= near
}

func gap(a, b int) int { return max(a-b, b-a) }
