package event

import (
	"math/bits"

	"meridian/api"
)

// within: a number of at most that size. (The least one has no size among the ints.)
func within(n, most int) bool {
	return n >= -most && n <= most
}

func isInstant(t int) bool {
	return within(t, api.MaxTime)
}

// isHeight: also of a level.
func isHeight(n int) bool {
	return within(n, 1<<40)
}

// inTime: all of a track's instants are some. They are held against each other by
// dividing, as the last one may be too great for an int.
func (t Track) inTime() bool {
	return t.Step >= 1 && isInstant(t.From) && t.Step <= (api.MaxTime-t.From)/(len(t.L)-1)
}

// takes a level: the errors of events.
func (t Track) takes(level int) error {
	if err := t.Valid(); err != nil {
		return err
	}
	if !isHeight(level) {
		return api.ErrShape
	}
	return nil
}

// instant of the height of that number.
func (t Track) instant(i int) int {
	return t.From + i*t.Step
}

func (t Track) last() int {
	return t.instant(len(t.L) - 1)
}

// height at an instant of the track, rounded down.
func (t Track) height(x int) int {
	i, past := (x-t.From)/t.Step, (x-t.From)%t.Step
	if past == 0 {
		return t.L[i]
	}
	if gain := t.L[i+1] - t.L[i]; gain >= 0 {
		down, _ := share(gain, past, t.Step)
		return t.L[i] + down
	}
	_, up := share(t.L[i]-t.L[i+1], past, t.Step)
	return t.L[i] - up
}

// share: some of a whole's parts, rounded down and rounded up. None is below 0, and
// some are no more than all, of which there are; the product may be too great for an
// int.
func share(whole, some, parts int) (down, up int) {
	high, low := bits.Mul64(uint64(whole), uint64(some))
	n, left := bits.Div64(high, low, uint64(parts))
	down, up = int(n), int(n)
	if left > 0 {
		up++
	}
	return down, up
}
