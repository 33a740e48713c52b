package night

import (
	"math"
	"slices"

	"meridian/event"
)

// most: how long a job may be, and how much it may be worth.
const most = 1 << 40

// numberOf the job of a name; -1: there is none.
func numberOf(l []Job, name string) int {
	return slices.IndexFunc(l, func(j Job) bool { return j.Name == name })
}

func isMisshapen(j Job) bool {
	_, err := event.Long(j.Windows)
	return j.Long < 1 || j.Long > most || j.Worth < 1 || j.Worth > most || err != nil
}

// mayBegin: all of it lies in one window then. Ends are made less, not the instant more, as
// that may be any number.
func (j Job) mayBegin(at int) bool {
	return slices.ContainsFunc(j.Windows, func(w event.Span) bool { return w.From <= at && at <= w.To-j.Long })
}

// longEnough: the windows in which a job has room.
func (j Job) longEnough() []event.Span {
	var l []event.Span
	for _, w := range j.Windows {
		if w.To-w.From >= j.Long {
			l = append(l, w)
		}
	}
	return l
}

// begin is the first instant from one on at which a job may begin, by its windows that are
// long enough.
func begin(windows []event.Span, long, from int) (int, bool) {
	i, _ := slices.BinarySearchFunc(windows, from, func(w event.Span, from int) int {
		if w.To-long < from {
			return -1
		}
		return 1
	})
	if i == len(windows) {
		return 0, false
	}
	return max(from, windows[i].From), true
}

// A row: some jobs one behind the other, of all their orders the one that ends first.
type row struct {
	can             bool // there is one
	last            int  // its last job
	from, to, worth int  // when that one begins and ends, and what all are worth
}

// soonest: of each set of jobs (a job's bit is that of its number) its row. Rows of fewer jobs
// are all that is needed for it: the sooner those ahead of the last one end, the sooner it may
// begin.
func soonest(l []Job) []row {
	windows := make([][]event.Span, len(l))
	for i, j := range l {
		windows[i] = j.longEnough()
	}
	rows := make([]row, 1<<len(l))
	rows[0] = row{can: true, to: math.MinInt}
	for set := 1; set < len(rows); set++ {
		for i, j := range l {
			ahead := rows[without(set, i)]
			if without(set, i) == set || !ahead.can {
				continue
			}
			from, ok := begin(windows[i], j.Long, ahead.to)
			if ok && (!rows[set].can || from+j.Long < rows[set].to) {
				rows[set] = row{true, i, from, from + j.Long, ahead.worth + j.Worth}
			}
		}
	}
	return rows
}

// without a job.
func without(set, i int) int { return set &^ (1 << i) }

// slotsOf the row of a set, from its last one back.
func slotsOf(l []Job, rows []row, set int) []Slot {
	var plan []Slot
	for set > 0 {
		r := rows[set]
		plan = append(plan, Slot{l[r.last].Name, r.from})
		set = without(set, r.last)
	}
	slices.Reverse(plan)
	return plan
}
