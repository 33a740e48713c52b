package shift

import "meridian/api"

const (
	farthest     = 16      // a move, across or down
	mostProducts = 1 << 22 // of a picture's pixels and moves
)

// bestMove of at most so much, across and down. Sums of counts are never below 0, so that
// the first move is taken whatever its sum is.
func bestMove(a, b api.Picture, most int) (dx, dy, sum int) {
	sum = -1
	for down := -most; down <= most; down++ {
		for across := -most; across <= most; across++ {
			if n := together(a, b, across, down); n > sum {
				dx, dy, sum = across, down, n
			}
		}
	}
	return dx, dy, sum
}

// together: the counts of a times those of b so far from there, where there are both.
func together(a, b api.Picture, dx, dy int) int {
	sum := 0
	for y := max(0, -dy); y < min(a.High, b.High-dy); y++ {
		for x := max(0, -dx); x < min(a.Wide, b.Wide-dx); x++ {
			sum += a.Counts[y*a.Wide+x] * b.Counts[(y+dy)*b.Wide+x+dx]
		}
	}
	return sum
}
