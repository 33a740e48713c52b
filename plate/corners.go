package plate

import (
	"cmp"
	"slices"

	"meridian/api"
)

const farthest = 1 << 18 // a point's coordinate

func isPoint(p api.Cell) bool {
	return p.X >= 0 && p.X <= farthest && p.Y >= 0 && p.Y <= farthest && p.Z == 0
}

// twiceArea of a triangle: above 0, if its corners go against the clock; 0, if they are in
// a line, or two of them are one.
func twiceArea(a, b, c api.Cell) int {
	return (b.X-a.X)*(c.Y-a.Y) - (c.X-a.X)*(b.Y-a.Y)
}

// square of two points' distance.
func square(a, b api.Cell) int {
	x, y := b.X-a.X, b.Y-a.Y
	return x*x + y*y
}

// A corner of a triangle: at which of three places it stands, and the square of the side
// across from it.
type corner struct {
	at     api.Cell
	place  int
	across int
}

// cornersOf three points, that across the longest side first; those across sides as long
// stay in the order as they stand.
func cornersOf(p [3]api.Cell) [3]corner {
	across := func(i int) int { return square(p[(i+1)%3], p[(i+2)%3]) }
	var l [3]corner
	for i := range l {
		l[i] = corner{at: p[i], place: i, across: across(i)}
	}
	slices.SortStableFunc(l[:], func(a, b corner) int { return cmp.Compare(b.across, a.across) })
	return l
}

// places of corners among the three.
func places(l [3]corner) [3]int { return [3]int{l[0].place, l[1].place, l[2].place} }

// shapeOf corners that are sorted and not in a line.
func shapeOf(l [3]corner) Shape {
	s := Shape{Long: l[0].across, Middle: l[1].across, Short: l[2].across}
	switch {
	case s.Long == s.Middle || s.Middle == s.Short:
		s.Hand = 0
	case twiceArea(l[0].at, l[1].at, l[2].at) > 0:
		s.Hand = 1
	default:
		s.Hand = -1
	}
	return s
}
