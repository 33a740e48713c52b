package night

import (
	"sync"

	"meridian/api"
	"meridian/spots"
)

// A shot: a picture on its way to a worker.
type shot struct {
	index   int
	picture api.Picture
}

// A finding on its way back.
type finding struct {
	Result
	err error
}

// sideBySide lets workers look at pictures. What they find comes over a channel that is closed,
// in any order; all of them have ended when it answers: each channel has room for all.
func sideBySide(l []api.Picture, workers int, find func(p api.Picture) ([]spots.Spot, error)) <-chan finding {
	shots := make(chan shot, len(l))
	for i, p := range l {
		shots <- shot{i, p}
	}
	close(shots)
	finds := make(chan finding, len(l))
	var all sync.WaitGroup
	for range workers {
		all.Add(1)
		go func() {
			defer all.Done()
			for s := range shots {
				found, err := find(s.picture)
				finds <- finding{together(s.index, found), err}
			}
		}()
	}
	all.Wait()
	close(finds)
	return finds
}

func together(index int, found []spots.Spot) Result {
	r := Result{Index: index, Spots: len(found)}
	for _, s := range found {
		r.Light += s.Light
	}
	return r
}
