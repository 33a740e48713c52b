package move

import "meridian/api"

// within: a cell whose coordinates are at most so much in size. (The least int has no
// size among the ints.)
func within(c api.Cell, most int) bool {
	return max(c.X, c.Y, c.Z) <= most && min(c.X, c.Y, c.Z) >= -most
}

// gain: a cell with so many times another one more.
func gain(c api.Cell, times int, more api.Cell) api.Cell {
	return api.Cell{X: c.X + times*more.X, Y: c.Y + times*more.Y, Z: c.Z + times*more.Z}
}

// square of how long a cell is.
func square(c api.Cell) int {
	return c.X*c.X + c.Y*c.Y + c.Z*c.Z
}

// root: the greatest whole number whose square is at most n, for an n below 2^44,
// as the square of a difference is.
func root(n int) int {
	r := 0
	for bit := 1 << 21; bit > 0; bit /= 2 {
		if more := r + bit; more*more <= n {
			r = more
		}
	}
	return r
}
