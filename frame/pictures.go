package frame

import (
	"slices"

	"meridian/api"
)

const mostStacked = 64

func isNoCount(n int) bool { return n < 0 || n > api.MaxCount }

// wrongTogether tells what is wrong with pictures that should be valid and of one size.
func wrongTogether(first api.Picture, more ...api.Picture) error {
	if err := Valid(first); err != nil {
		return err
	}
	for _, p := range more {
		if err := Valid(p); err != nil {
			return err
		}
	}
	for _, p := range more {
		if p.Wide != first.Wide || p.High != first.High {
			return api.ErrShape
		}
	}
	return nil
}

func emptyLike(p api.Picture) api.Picture {
	return api.Picture{Wide: p.Wide, High: p.High, Counts: make([]int, len(p.Counts))}
}

func medians(l []api.Picture) api.Picture {
	m := emptyLike(l[0])
	counts := make([]int, len(l))
	for i := range m.Counts {
		for k, p := range l {
			counts[k] = p.Counts[i]
		}
		slices.Sort(counts)
		m.Counts[i] = counts[(len(counts)-1)/2]
	}
	return m
}

// meanAboveZero is the mean of the counts above 0; false: there are none.
func meanAboveZero(counts []int) (int, bool) {
	sum, number := 0, 0
	for _, n := range counts {
		if n > 0 {
			sum += n
			number++
		}
	}
	if number == 0 {
		return 0, false
	}
	return sum / number, true
}

// evened is light as it were if each pixel saw as much of it as their mean.
func evened(light, mean, flat int) int {
	if flat == 0 {
		return 0
	}
	return min((2*light*mean+flat)/(2*flat), api.MaxCount)
}
