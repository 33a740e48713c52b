package event

import (
	"math"

	"meridian/api"
)

// farthest: how great an end of a span may be in size.
const farthest = 1 << 60

// valid lists? How many spans there are is looked at in all lists ahead of any list's
// shape, as it is told first.
func valid(lists ...[]Span) error {
	for _, l := range lists {
		if len(l) > api.MaxList {
			return api.ErrBound
		}
	}
	for _, l := range lists {
		if !rises(l) {
			return api.ErrShape
		}
	}
	return nil
}

func rises(l []Span) bool {
	for i, s := range l {
		touches := i > 0 && s.From <= l[i-1].To
		if s.From >= s.To || touches || !within(s.From, farthest) || !within(s.To, farthest) {
			return false
		}
	}
	return true
}

// end of a span by its number: each span has two, so that behind an odd number of them
// one is in a span. Behind the last one there is none, as far as any goes.
func end(l []Span, i int) int {
	if i == 2*len(l) {
		return math.MaxInt
	}
	if i%2 == 0 {
		return l[i/2].From
	}
	return l[i/2].To
}

// mixed: the instants that count, by whether they are in a and whether they are in b.
// Those that are in neither do not.
func mixed(a, b []Span, counts func(inA, inB bool) bool) ([]Span, error) {
	if err := valid(a, b); err != nil {
		return nil, err
	}
	var l []Span
	from, in := 0, false
	for i, j := 0, 0; i < 2*len(a) || j < 2*len(b); {
		endA, endB := end(a, i), end(b, j)
		at := min(endA, endB)
		if endA == at {
			i++
		}
		if endB == at {
			j++
		}
		now := counts(i%2 == 1, j%2 == 1)
		if now && !in {
			from = at
		}
		if in && !now {
			l = append(l, Span{From: from, To: at})
		}
		in = now
	}
	return l, nil
}
