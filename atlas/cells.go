package atlas

import "meridian/api"

const (
	farthest = 1 << 20 // a direction's coordinate, in size
	faces    = 6
)

func isDirection(d api.Cell) bool {
	return d != (api.Cell{}) && max(d.X, d.Y, d.Z) <= farthest && min(d.X, d.Y, d.Z) >= -farthest
}

func isLevel(level int) bool { return level >= 0 && level <= api.MaxLevel }

// isPlace: a column or a row of a level.
func isPlace(n, level int) bool { return n >= 0 && n < 1<<level }

func size(n int) int { return max(n, -n) }

func faceOf(d api.Cell) int {
	axis, along := 0, d.X
	if size(d.Y) > size(along) {
		axis, along = 1, d.Y
	}
	if size(d.Z) > size(along) {
		axis, along = 2, d.Z
	}
	if along < 0 {
		return 2*axis + 1
	}
	return 2 * axis
}

// turned: a direction as it is seen from a face: X goes out through it, Y and Z are its u
// and v. Angles stay as they are (some are mirrored).
func turned(d api.Cell, face int) api.Cell {
	switch face / 2 {
	case 1:
		d = api.Cell{X: d.Y, Y: d.X, Z: d.Z}
	case 2:
		d = api.Cell{X: d.Z, Y: d.X, Z: d.Y}
	}
	if face%2 == 1 {
		d.X = -d.X
	}
	return d
}

func cellOf(d api.Cell, level int) Spot {
	face := faceOf(d)
	t := turned(d, face)
	side := 1 << level
	place := func(n int) int { return min((n+t.X)*side/(2*t.X), side-1) }
	return Spot{Face: face, Level: level, Col: place(t.Y), Row: place(t.Z)}
}

func (s Spot) up() Spot {
	return Spot{Face: s.Face, Level: s.Level - 1, Col: s.Col / 2, Row: s.Row / 2}
}

// parts of a cell, a level further on.
func (s Spot) parts() []Spot {
	level, col, row := s.Level+1, 2*s.Col, 2*s.Row
	return []Spot{{s.Face, level, col, row}, {s.Face, level, col, row + 1}, {s.Face, level, col + 1, row}, {s.Face, level, col + 1, row + 1}}
}

// wholeFaces: the cells of level 0.
func wholeFaces() []Spot {
	var l []Spot
	for face := range faces {
		l = append(l, Spot{Face: face})
	}
	return l
}
