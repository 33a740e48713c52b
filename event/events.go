package event

import (
	"cmp"

	"meridian/api"
)

// order in which events stand.
func order(a, b Event) int {
	return cmp.Or(cmp.Compare(a.At, b.At), cmp.Compare(a.Index, b.Index), cmp.Compare(a.Kind, b.Kind))
}

// crossings: the rises and sets, as they come.
func (t Track) crossings(level int) []Event {
	above := func(i int) bool { return t.L[i] > level }
	var l []Event
	for i := range len(t.L) - 1 {
		switch {
		case above(i+1) && !above(i):
			l = append(l, t.rise(i, level))
		case above(i) && !above(i+1):
			l = append(l, t.set(i, level))
		}
	}
	return l
}

// rise between a height and the next one.
func (t Track) rise(i, level int) Event {
	past, _ := share(t.Step, level-t.L[i], t.L[i+1]-t.L[i])
	return Event{Kind: api.Rise, At: t.instant(i) + past, Index: i}
}

// set between a height and the next one, which has it if it stands at the level.
func (t Track) set(i, level int) Event {
	_, past := share(t.Step, t.L[i]-level, t.L[i]-t.L[i+1])
	e := Event{Kind: api.Set, At: t.instant(i) + past, Index: i}
	if t.L[i+1] == level {
		e.Index++
	}
	return e
}

// turns: the peaks and dips, as they come.
func (t Track) turns(level int) []Event {
	var l []Event
	for i := 1; i < len(t.L); {
		behind := t.behind(i)
		if kind := t.turn(i, behind, level); kind != 0 {
			l = append(l, Event{Kind: kind, At: t.instant(i), Index: i})
		}
		i = behind
	}
	return l
}

// behind the row of heights that are equal to that one, from it on.
func (t Track) behind(i int) int {
	n := i + 1
	for n < len(t.L) && t.L[n] == t.L[i] {
		n++
	}
	return n
}

// turn: a peak, a dip or none (0): the row from a height on, against what stands ahead
// of it and behind it. (If it began ahead already, it is no more and no less than that.)
func (t Track) turn(i, behind, level int) int {
	if behind == len(t.L) {
		return 0
	}
	here, ahead, after := t.L[i], t.L[i-1], t.L[behind]
	switch {
	case here > max(ahead, after) && here > level:
		return api.Peak
	case here < min(ahead, after) && here <= level:
		return api.Dip
	}
	return 0
}
