package atlas

import "meridian/api"

const longestName = 40 // bytes

// A star: what is kept of an entry. Nobody asks for its light.
type star struct {
	name string
	at   api.Cell
}

func isName(name string) bool { return name != "" && len(name) <= longestName }

func (a *Atlas) has(name string) bool {
	if a == nil {
		return false
	}
	_, there := a.names[name]
	return there
}

// isFull: one that New did not make has no room.
func (a *Atlas) isFull() bool {
	return a == nil || a.cells == nil || len(a.stars) >= api.MaxList
}

// put a star into its cell of each level, so that all of a cell's stars stand under it.
func (a *Atlas) put(s star) {
	number := len(a.stars)
	a.stars = append(a.stars, s)
	a.names[s.name] = struct{}{}
	cell := cellOf(s.at, a.level)
	for range a.level + 1 {
		a.cells[cell] = append(a.cells[cell], number)
		cell = cell.up()
	}
}
