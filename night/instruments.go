package night

import (
	"slices"
	"strings"

	"meridian/api"
	"meridian/event"
)

// What an instrument may be. Nobody else's has these methods: they are not exported.

type camera interface{ picture() api.Picture }

type dome interface{ isOpen(at int) bool }

type pointer interface{ isUp() bool }

type still struct{ always api.Picture }

type hours struct{ open []event.Span }

type fixed struct{ alt int }

type roof struct {
	hours
	fixed
}

func (s still) Kind() string { return "camera" }

func (h hours) Kind() string { return "dome" }

func (f fixed) Kind() string { return "pointer" }

func (r roof) Kind() string { return r.hours.Kind() + " " + r.fixed.Kind() }

func (s still) picture() api.Picture { return copied(s.always) }

func (h hours) isOpen(at int) bool {
	return slices.ContainsFunc(h.open, func(s event.Span) bool { return s.From <= at && at < s.To })
}

func (f fixed) isUp() bool { return f.alt > 0 }

func copied(p api.Picture) api.Picture {
	p.Counts = slices.Clone(p.Counts)
	return p
}

// A fitting: an instrument and its name in a house.
type fitting struct {
	name string
	what Instrument
}

// placeOf a name among those of a house; whether it is there.
func (h *House) placeOf(name string) (int, bool) {
	return slices.BinarySearchFunc(h.fitted, name, func(f fitting, name string) int {
		return strings.Compare(f.name, name)
	})
}

func isMadeHere(x Instrument) bool {
	switch x.(type) {
	case still, hours, fixed, roof:
		return true
	}
	return false
}

// isInTheWay: a dome that is not open, or a pointer that is not up.
func isInTheWay(x Instrument, at int) bool {
	if d, ok := x.(dome); ok && !d.isOpen(at) {
		return true
	}
	if p, ok := x.(pointer); ok && !p.isUp() {
		return true
	}
	return false
}

// picturesOf an instrument: one, if it is a camera.
func picturesOf(x Instrument) []api.Picture {
	if c, ok := x.(camera); ok {
		return []api.Picture{c.picture()}
	}
	return nil
}
