package spots_test

import (
	"crypto/sha256"
	"fmt"
	"math/big"
	"math/rand"
	"slices"
	"sort"
	"strconv"
	"strings"
	"testing"

	"meridian/api"
	"meridian/spots"
)

func pic(wide int, counts ...int) api.Picture {
	return api.Picture{Wide: wide, High: len(counts) / wide, Counts: counts}
}

// even is a picture of one count.
func even(wide, high, count int) api.Picture {
	return api.Picture{Wide: wide, High: high, Counts: slices.Repeat([]int{count}, wide*high)}
}

// drawn is a picture by a text of rows: '.' is none, a digit ten times as much.
func drawn(rows ...string) api.Picture {
	p := api.Picture{Wide: len(rows[0]), High: len(rows)}
	for _, c := range strings.Join(rows, "") {
		n := 0
		if c != '.' {
			n = 10 * int(c-'0')
		}
		p.Counts = append(p.Counts, n)
	}
	return p
}

// marks of a text of rows: '#' is lit.
func marks(rows ...string) []bool {
	var l []bool
	for _, c := range strings.Join(rows, "") {
		l = append(l, c == '#')
	}
	return l
}

// starry is a picture by a rule that the values written out were reckoned by.
func starry(wide, high, seed, stars int) api.Picture {
	p := api.Picture{Wide: wide, High: high}
	for i := range wide * high {
		x, y := i%wide, i/wide
		n := 100 + 3*(x/5) + (i*i*31+i*seed)%17
		for k := range stars {
			across, down := x-(k*k*37+k*seed+11)%wide, y-(k*k*53+k*29+seed)%high
			far := across*across + down*down
			n += (2000 + 977*k) / (1 + far*far)
		}
		p.Counts = append(p.Counts, min(n, 65535))
	}
	return p
}

func thrown(dice *rand.Rand, wide, high int) api.Picture {
	most := []int{2, 3, 10, 1000, 65536}[dice.Intn(5)]
	p := api.Picture{Wide: wide, High: high, Counts: make([]int, wide*high)}
	for i := range p.Counts {
		p.Counts[i] = dice.Intn(most)
		if dice.Intn(20) == 0 {
			p.Counts[i] = []int{0, 1, 65534, 65535}[dice.Intn(4)]
		}
	}
	return p
}

func small(dice *rand.Rand) api.Picture {
	return thrown(dice, 1+dice.Intn(12), 1+dice.Intn(12))
}

func sumOf(l []int) string {
	words := make([]string, len(l))
	for i, n := range l {
		words[i] = strconv.Itoa(n)
	}
	return fmt.Sprintf("%x", sha256.Sum256([]byte(strings.Join(words, " "))))
}

// toldMedian: the least count that at least half of them do not pass.
func toldMedian(l []int) int {
	best := -1
	for _, n := range l {
		upTo := 0
		for _, m := range l {
			if m <= n {
				upTo++
			}
		}
		if 2*upTo >= len(l) && (best < 0 || n < best) {
			best = n
		}
	}
	return best
}

// toldGround gives each pixel to the tile that it is in.
func toldGround(p api.Picture, tile int) []int {
	across := (p.Wide-1)/tile + 1
	tiles := make([][]int, across*((p.High-1)/tile+1))
	for i, n := range p.Counts {
		at := i/p.Wide/tile*across + i%p.Wide/tile
		tiles[at] = append(tiles[at], n)
	}
	var l []int
	for _, counts := range tiles {
		l = append(l, toldMedian(counts))
	}
	return l
}

// toldLight of each pixel above its tile's ground.
func toldLight(p api.Picture, tile int) []int {
	ground := toldGround(p, tile)
	across := (p.Wide-1)/tile + 1
	var l []int
	for i, n := range p.Counts {
		l = append(l, n-ground[i/p.Wide/tile*across+i%p.Wide/tile])
	}
	return l
}

func toldLit(p api.Picture, tile, over int) []bool {
	var l []bool
	for _, n := range toldLight(p, tile) {
		l = append(l, n > over)
	}
	return l
}

func size(n int) int { return max(n, -n) }

// toldParts puts pixel by pixel together all the parts that it touches; each part is its
// pixels, rising.
func toldParts(lit []bool, wide int) [][]int {
	touch := func(a, b int) bool { return size(a%wide-b%wide) <= 1 && size(a/wide-b/wide) <= 1 }
	var parts [][]int
	for i := range lit {
		if !lit[i] {
			continue
		}
		own := []int{i}
		var others [][]int
		for _, part := range parts {
			if slices.ContainsFunc(part, func(k int) bool { return touch(i, k) }) {
				own = append(own, part...)
			} else {
				others = append(others, part)
			}
		}
		slices.Sort(own)
		parts = append(others, own)
	}
	sort.Slice(parts, func(a, b int) bool { return parts[a][0] < parts[b][0] })
	return parts
}

func toldLabel(lit []bool, wide int) ([]int, int) {
	l := make([]int, len(lit))
	parts := toldParts(lit, wide)
	for n, part := range parts {
		for _, i := range part {
			l[i] = n + 1
		}
	}
	return l, len(parts)
}

func floor(num, den *big.Int) int { return int(new(big.Int).Div(num, den).Int64()) }

// toldSpot of the pixels of a part.
func toldSpot(part, lights []int, wide int) spots.Spot {
	s := spots.Spot{Left: 1 << 30, Top: 1 << 30, Right: -1, Low: -1, Pixels: len(part)}
	x, y, all := new(big.Int), new(big.Int), new(big.Int)
	for _, i := range part {
		s.Left, s.Right = min(s.Left, i%wide), max(s.Right, i%wide)
		s.Top, s.Low = min(s.Top, i/wide), max(s.Low, i/wide)
		all.Add(all, big.NewInt(int64(lights[i])))
		x.Add(x, big.NewInt(int64(lights[i]*(1024*(i%wide)+512))))
		y.Add(y, big.NewInt(int64(lights[i]*(1024*(i/wide)+512))))
	}
	s.Light = int(all.Int64())
	s.Star = api.Star{X: floor(x, all), Y: floor(y, all), Light: s.Light}
	return s
}

// toldFind takes, one after the other, the part that no other one is ahead of.
func toldFind(p api.Picture, tile, over, least int) []spots.Spot {
	lights := toldLight(p, tile)
	type found struct {
		spot  spots.Spot
		first int // x in the row Top
	}
	var l []found
	for _, part := range toldParts(toldLit(p, tile, over), p.Wide) {
		f := found{spot: toldSpot(part, lights, p.Wide), first: 1 << 30}
		for _, i := range part {
			if i/p.Wide == f.spot.Top {
				f.first = min(f.first, i%p.Wide)
			}
		}
		if len(part) >= least {
			l = append(l, f)
		}
	}
	ahead := func(a, b found) bool {
		if a.spot.Light != b.spot.Light {
			return a.spot.Light > b.spot.Light
		}
		if a.spot.Top != b.spot.Top {
			return a.spot.Top < b.spot.Top
		}
		return a.first < b.first
	}
	var spots []spots.Spot
	for len(l) > 0 {
		best := 0
		for i := range l {
			if ahead(l[i], l[best]) {
				best = i
			}
		}
		spots = append(spots, l[best].spot)
		l = slices.Delete(l, best, best+1)
	}
	return spots
}

// toldWithin: the counts of the box's pixels at most so far from the Star, together.
func toldWithin(p api.Picture, s spots.Spot, square int) int {
	sum := 0
	for i, n := range p.Counts {
		x, y := i%p.Wide, i/p.Wide
		if x < s.Left || x > s.Right || y < s.Top || y > s.Low {
			continue
		}
		across, down := 1024*x+512-s.Star.X, 1024*y+512-s.Star.Y
		if across*across+down*down <= square {
			sum += n
		}
	}
	return sum
}

// toldWide halves between what is too little and what is enough; false: there is nothing.
func toldWide(p api.Picture, s spots.Spot, share int) (int, bool) {
	all := toldWithin(p, s, 1<<62)
	if all == 0 {
		return 0, false
	}
	low, high := -1, 1<<62
	for high-low > 1 {
		middle := low + (high-low)/2
		if 100*toldWithin(p, s, middle) >= share*all {
			high = middle
		} else {
			low = middle
		}
	}
	return high, true
}

// numbers of spots, field by field.
func numbers(l []spots.Spot) []int {
	var all []int
	for _, s := range l {
		all = append(all, s.Left, s.Top, s.Right, s.Low, s.Pixels, s.Light, s.Star.X, s.Star.Y, s.Star.Light)
	}
	return all
}

func needGround(t *testing.T, p api.Picture, tile int, want ...int) {
	t.Helper()
	if l, err := spots.Ground(p, tile); err != nil || !slices.Equal(l, want) {
		t.Fatalf("Ground by %d of %d by %d %v = %v, %v, want %v", tile, p.Wide, p.High, p.Counts, l, err, want)
	}
}

func needLit(t *testing.T, p api.Picture, tile, over int, want []bool) {
	t.Helper()
	if l, err := spots.Lit(p, tile, over); err != nil || !slices.Equal(l, want) {
		t.Fatalf("Lit by %d over %d of %d by %d %v = %v, %v, want %v", tile, over, p.Wide, p.High, p.Counts, l, err, want)
	}
}

func needLabel(t *testing.T, lit []bool, wide int, want []int, many int) {
	t.Helper()
	if l, n, err := spots.Label(lit, wide); err != nil || n != many || !slices.Equal(l, want) {
		t.Fatalf("Label of %v by %d = %v, %d, %v, want %v, %d", lit, wide, l, n, err, want, many)
	}
}

func needFind(t *testing.T, p api.Picture, tile, over, least int, want ...spots.Spot) {
	t.Helper()
	if l, err := spots.Find(p, tile, over, least); err != nil || !slices.Equal(l, want) {
		t.Fatalf("Find by %d over %d, %d or more of %d by %d %v = %v, %v, want %v", tile, over, least, p.Wide, p.High, p.Counts, l, err, want)
	}
}

func needWide(t *testing.T, p api.Picture, s spots.Spot, share, want int, wantErr error) {
	t.Helper()
	if r, err := spots.Wide(p, s, share); err != wantErr || r != want {
		t.Fatalf("Wide of %v, %d hundredths, in %d by %d = %d, %v, want %d, %v", s, share, p.Wide, p.High, r, err, want, wantErr)
	}
}

// wrong is a picture that is none, and what is told of it.
type wrong struct {
	p   api.Picture
	err error
}

func wrongs() []wrong {
	return []wrong{
		{api.Picture{}, api.ErrShape},
		{api.Picture{Wide: 2, High: 2, Counts: make([]int, 3)}, api.ErrShape},
		{api.Picture{Wide: 2, High: 2, Counts: make([]int, 5)}, api.ErrShape},
		{api.Picture{Wide: -1, High: -1, Counts: []int{1}}, api.ErrShape},
		{pic(2, 1, -1), api.ErrShape},
		{pic(2, 65536, 1), api.ErrShape},
		{even(257, 1, 5), api.ErrBound},
		{even(1, 257, 5), api.ErrBound},
		{even(257, 1, -1), api.ErrBound},
		{api.Picture{Wide: 1 << 62, High: 4}, api.ErrBound},
	}
}
