package spots

import "meridian/api"

// numbered is the number of each pixel's part, in the order of the parts' first pixels,
// and how many parts there are.
func numbered(lit []bool, wide int) ([]int, int) {
	numbers := make([]int, len(lit))
	many := 0
	for i := range lit {
		if lit[i] && numbers[i] == 0 {
			many++
			spread(lit, numbers, wide, i, many)
		}
	}
	return numbers, many
}

// spread a number from a pixel to all of its part. A pixel has its number from when it
// begins to wait, so that it waits once.
func spread(lit []bool, numbers []int, wide, first, number int) {
	numbers[first] = number
	waiting := []int{first}
	for len(waiting) > 0 {
		last := len(waiting) - 1
		i := waiting[last]
		waiting = waiting[:last]
		x, y := i%wide, i/wide
		for v := max(y-1, 0); v <= min(y+1, len(lit)/wide-1); v++ {
			for u := max(x-1, 0); u <= min(x+1, wide-1); u++ {
				k := v*wide + u
				if lit[k] && numbers[k] == 0 {
					numbers[k] = number
					waiting = append(waiting, k)
				}
			}
		}
	}
}

// gathered is the spot of each part, by its number.
func gathered(lights, numbers []int, many, wide int) []Spot {
	l := make([]Spot, many)
	for i, n := range numbers {
		if n > 0 {
			l[n-1] = with(l[n-1], i%wide, i/wide, lights[i])
		}
	}
	for i, s := range l {
		l[i].Star = api.Star{X: s.Star.X / s.Light, Y: s.Star.Y / s.Light, Light: s.Light}
	}
	return l
}

// with is a spot with one more pixel. Its Star has sums yet, for the means.
func with(s Spot, x, y, light int) Spot {
	if s.Pixels == 0 {
		s.Left, s.Right, s.Top, s.Low = x, x, y, y
	}
	s.Left, s.Right = min(s.Left, x), max(s.Right, x)
	s.Top, s.Low = min(s.Top, y), max(s.Low, y)
	s.Pixels++
	s.Light += light
	s.Star.X += light * middle(x)
	s.Star.Y += light * middle(y)
	return s
}

// middle of a pixel, across or down, in the units of a Star.
func middle(n int) int { return 1024*n + 512 }
