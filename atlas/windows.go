package atlas

import (
	"slices"

	"meridian/api"
	"meridian/wide"
)

// A window: a cell as seen from its face: what lies in the plane so far out, between left
// and right along u, between low and high along v, its edges in.
type window struct{ out, left, right, low, high int }

func (s Spot) window() window {
	out := 1 << s.Level
	left, low := 2*s.Col-out, 2*s.Row-out
	return window{out, left, left + 2, low, low + 2}
}

// nearness of a cell to a direction: the greatest cosine of what lies in it.
func (s Spot) nearness(d api.Cell) cosine {
	d = turned(d, s.Face)
	w := s.window()
	if w.holds(d) {
		return cosineTo(d, d)
	}
	return slices.MaxFunc(append(w.corners(d), w.feet(d)...), cosine.compare)
}

// holds: as left is below right, nothing that does not go out through the face lies between.
func (w window) holds(d api.Cell) bool {
	within := func(n, from, to int) bool { return from*d.X <= n*w.out && n*w.out <= to*d.X }
	return within(d.Y, w.left, w.right) && within(d.Z, w.low, w.high)
}

func (w window) corners(d api.Cell) []cosine {
	to := func(u, v int) cosine { return cosineTo(d, api.Cell{X: w.out, Y: u, Z: v}) }
	return []cosine{to(w.left, w.low), to(w.left, w.high), to(w.right, w.low), to(w.right, w.high)}
}

// feet: of those edges that come nearest to a direction between their ends: how near.
func (w window) feet(d api.Cell) []cosine {
	var l []cosine
	add := func(c cosine, ok bool) {
		if ok {
			l = append(l, c)
		}
	}
	add(foot(d, w.out, w.left, w.low, w.high))
	add(foot(d, w.out, w.right, w.low, w.high))
	mirrored := api.Cell{X: d.X, Y: d.Z, Z: d.Y}
	add(foot(mirrored, w.out, w.low, w.left, w.right))
	add(foot(mirrored, w.out, w.high, w.left, w.right))
	return l
}

// foot of the perpendicular from a direction to the edge of all (out, u, v) with v between
// from and to: along is what of the direction goes towards (out, u, 0), times that one's
// length, and Z goes towards v. (Nothing lies between from and to, if along is not above 0.)
func foot(d api.Cell, out, u, from, to int) (cosine, bool) {
	along, square := d.X*out+d.Y*u, out*out+u*u
	if d.Z*square <= from*along || d.Z*square >= to*along {
		return cosine{}, false
	}
	return cosine{1, wide.Product(along, along).Plus(wide.Product(d.Z*d.Z, square)), square}, true
}
