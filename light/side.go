package light

import (
	"sync"
	"sync/atomic"

	"meridian/api"
)

func isTooLong(l []float64) bool { return len(l) > api.MaxList }

// sideBySide does something of each number from 0 on, below many. Each worker takes the
// next number as soon as it has done with one; all of them have ended when it answers.
func sideBySide(workers, many int, do func(worker, i int)) {
	var taken atomic.Int64
	var all sync.WaitGroup
	for worker := range workers {
		all.Add(1)
		go func() {
			defer all.Done()
			for i := int(taken.Add(1)) - 1; i < many; i = int(taken.Add(1)) - 1 {
				do(worker, i)
			}
		}()
	}
	all.Wait()
}

// told: the unseen names, which are seen from now on. One that comes twice was unseen
// both times when the workers looked.
func (a *Alerts) told(names []string, unseen []bool) []string {
	var l []string
	for i, name := range names {
		if !unseen[i] {
			continue
		}
		if _, twice := a.seen[name]; !twice {
			a.seen[name] = struct{}{}
			l = append(l, name)
		}
	}
	return l
}
