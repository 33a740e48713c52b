package spots

import "meridian/api"

const farthest = 1 << 28 // a Star's coordinate, in size

// FarOff: a star is so far that Far may be too great for an int.
func FarOff(s api.Star) bool { return isFarOff(s.X) || isFarOff(s.Y) }

func isFarOff(n int) bool { return n < -farthest || n > farthest }

// Far: the square of how far a pixel's middle is from a star.
func Far(s api.Star, x, y int) int {
	across, down := middle(x)-s.X, middle(y)-s.Y
	return across*across + down*down
}

// hasBox: a spot's box lies in the picture.
func hasBox(p api.Picture, s Spot) bool {
	return lies(s.Left, s.Right, p.Wide) && lies(s.Top, s.Low, p.High)
}

func lies(from, to, side int) bool { return from >= 0 && from <= to && to < side }

// pixel of a spot's box.
type pixel struct {
	far   int // from its Star, squared
	count int
}

// boxPixels are all of a spot's box, and their counts together.
func boxPixels(p api.Picture, s Spot) ([]pixel, int) {
	var l []pixel
	all := 0
	for y := s.Top; y <= s.Low; y++ {
		for x := s.Left; x <= s.Right; x++ {
			count := p.Counts[y*p.Wide+x]
			l = append(l, pixel{far: Far(s.Star, x, y), count: count})
			all += count
		}
	}
	return l, all
}

// reach is how far one goes along pixels, the nearest first, until they have so many
// hundredths of a count.
func reach(l []pixel, hundredths int) int {
	far, sum := 0, 0
	for _, one := range l {
		if 100*sum >= hundredths {
			break
		}
		far = one.far
		sum += one.count
	}
	return far
}
