package atlas

import (
	"slices"

	"meridian/api"
)

const few = 16 // stars: to look at them takes no longer than to go into their cell

// A search for the stars that are near enough to a direction. While it goes on, more may be
// asked for, never less: what was left out stays out.
type search struct {
	*Atlas
	from   api.Cell
	enough func(c cosine) bool
	take   func(i int, c cosine)
	looked int
}

// A part of the sky that has stars, and how near it comes.
type part struct {
	Spot
	nearness cosine
}

// through cells, the nearest first, leaving out those that do not come near enough.
func (s *search) through(cells []Spot) {
	for _, p := range s.nearestFirst(cells) {
		if !s.enough(p.nearness) {
			return
		}
		if s.isSmall(p.Spot) {
			s.lookAt(s.cells[p.Spot])
		} else {
			s.through(p.parts())
		}
	}
}

func (s *search) nearestFirst(cells []Spot) []part {
	l := make([]part, 0, len(cells))
	for _, c := range cells {
		if len(s.cells[c]) > 0 {
			l = append(l, part{c, c.nearness(s.from)})
		}
	}
	slices.SortStableFunc(l, func(p, q part) int { return q.nearness.compare(p.nearness) })
	return l
}

// isSmall: a cell that is not gone into. A face never is small while it has parts: a few
// stars may be more than half of all.
func (a *Atlas) isSmall(s Spot) bool {
	return s.Level == a.level || s.Level > 0 && len(a.cells[s]) <= few
}

func (s *search) lookAt(numbers []int) {
	s.looked += len(numbers)
	for _, i := range numbers {
		if c := cosineTo(s.from, s.stars[i].at); s.enough(c) {
			s.take(i, c)
		}
	}
}

// within: the names of the stars whose cosine is at least that; at how many it looked.
func (a *Atlas) within(d api.Cell, least cosine) (names []string, looked int) {
	s := search{Atlas: a, from: d}
	s.enough = func(c cosine) bool { return c.compare(least) >= 0 }
	s.take = func(i int, c cosine) { names = append(names, a.stars[i].name) }
	s.through(wholeFaces())
	return names, s.looked
}

// nearest star's number, if there is a star; at how many it looked.
func (a *Atlas) nearest(d api.Cell) (found, looked int) {
	var best cosine
	found = -1
	s := search{Atlas: a, from: d}
	s.enough = func(c cosine) bool { return found < 0 || c.compare(best) >= 0 }
	s.take = func(i int, c cosine) {
		if found < 0 || c.compare(best) > 0 || a.stars[i].name < a.stars[found].name {
			found, best = i, c
		}
	}
	s.through(wholeFaces())
	return found, s.looked
}

// nearestIn another atlas: of each star, that one's number.
func (a *Atlas) nearestIn(b *Atlas) []int {
	l := make([]int, len(a.stars))
	for i, s := range a.stars {
		l[i], _ = b.nearest(s.at)
	}
	return l
}
