package spots_test

import (
	"math"
	"math/rand"
	"slices"
	"testing"

	"meridian/api"
	"meridian/spots"
)

// P110, P111, P112, P113, P114: pictures of stars, written out.
func TestKnownPictures(t *testing.T) {
	for _, k := range []struct {
		wide, high, seed, stars, tile, over, least int
		sumGround                                  string
		lit                                        int
		sumLit                                     string
		parts                                      int
		sumLabel                                   string
		spots                                      int
		sumSpots, sumWides                         string
	}{
		{20, 15, 7, 3, 6, 9, 1, "e127f659f3339174c3fc1f2b6f0dd7da7d6aab0e07a7832d63a8870302f05a93", 64, "13793ae206391717e91569e7cae7963869275fb81ae3f78cb9db74506743d8fb", 5, "046e79f00ce0864317a75d96348bf0f00b2093511c1575599eeacedeae9bc017", 5, "c16240ff1f985098568473450dfdad0102a0fbec99253b2e0b83e5b6798dd42f", "798d6e37e4111120bf3d47b184bda02bad8690d079de204ebe1b1619fc87fea1"},
		{64, 48, 21, 9, 16, 20, 3, "b733725baebf09fddd992bd420bb382f5bbf725f736be05e55e370fbdfcf5e69", 372, "b38cbc8656b94c563137e4410ba4954f7ef172fdb4e9aee04754c1421be15984", 5, "f6444c8913da56c0a0a2b188bccf8bb59e1cf560778fe3e8847875816ded4634", 5, "129d9cfdae586a2c38a93e54c27050bc3cff4a0672b27412b5be0a56797f1356", "c0eb0e1bbb27ec4f3689c09c5283855cc5c66d7e937ae628ce1ec20842ae0b39"},
		{100, 77, 5, 30, 25, 8, 2, "93d9b1edff90e154e2c5fa5e2908a3070d94021084d7ddbd0bb5e4fba60f31b4", 2419, "41dcbb043ce69ef89a833ea54461de6c15eca2028f803ea0587aa556498e7a35", 170, "d8c1fa4e5659a8c22b9afe1d5458fb7baed2ba2266e98db4c54c4363d35c915e", 14, "2c0a9f96c20d6a8e767c207f4c395943b92fc1a222ee0a3d5a2ac89c0a179bb8", "e860b43c1257ddc5f9ddc44943f7f088854432d5ef65579c2d2d40d270282796"},
		{256, 256, 13, 60, 32, 40, 4, "04bf1ab57e15b73271393564b985958abf4bfe4076d7ea57feaede98865f883e", 4699, "dfe9d1c7fe7f235e22aae6d9adc60c2ef84a76e3c0ab897e487dad2e63f0ceea", 50, "e32213758a78689cd78d2a3e35ff8692699f2672ac911d31f02829c72f10e528", 50, "6e1ce4b79a782fec2a371d3dd9f4e0097ef49109bfa154c7e569d98514c3e130", "0567aa472ffd7c48de4134c9b5cacf28106fc5ca03cbd5da1ddd493d7b5ccdfd"},
	} {
		p := starry(k.wide, k.high, k.seed, k.stars)
		if g, err := spots.Ground(p, k.tile); err != nil || sumOf(g) != k.sumGround {
			t.Errorf("%d by %d: the ground is another one, %v", k.wide, k.high, err)
		}
		lit, err := spots.Lit(p, k.tile, k.over)
		var ones []int
		many := 0
		for _, b := range lit {
			one := 0
			if b {
				one = 1
			}
			ones = append(ones, one)
			many += one
		}
		if err != nil || many != k.lit || sumOf(ones) != k.sumLit {
			t.Errorf("%d by %d: %d are lit, %v", k.wide, k.high, many, err)
		}
		if l, n, err := spots.Label(lit, p.Wide); err != nil || n != k.parts || sumOf(l) != k.sumLabel {
			t.Errorf("%d by %d: %d parts, %v", k.wide, k.high, n, err)
		}
		l, err := spots.Find(p, k.tile, k.over, k.least)
		if err != nil || len(l) != k.spots || sumOf(numbers(l)) != k.sumSpots {
			t.Errorf("%d by %d: %d spots, %v", k.wide, k.high, len(l), err)
		}
		var wides []int
		for _, s := range l {
			for _, share := range []int{1, 50, 80, 100} {
				r, err := spots.Wide(p, s, share)
				if err != nil {
					t.Error(err)
				}
				wides = append(wides, r)
			}
		}
		if sumOf(wides) != k.sumWides {
			t.Errorf("%d by %d: %v ..", k.wide, k.high, wides[:4])
		}
	}
}

// P112: a spot's box, its pixels, its light and its middle, which is rounded down.
func TestSpot(t *testing.T) {
	p := drawn(
		"......",
		"..1...",
		".2.1..",
		"....9.",
		"......")
	// x: (1024*(1*20+2*10+3*10+4*90) + 512*130) / 130, y: (1024*(1*10+2*30+3*90) + 512*130) / 130
	want := spots.Spot{Left: 1, Top: 1, Right: 4, Low: 3, Pixels: 4, Light: 130, Star: api.Star{X: 3899, Y: 3190, Light: 130}}
	needFind(t, p, 256, 0, 1, want)
	needFind(t, p, 256, 9, 4, want)
	needFind(t, p, 256, 0, 5)
	// Without the fainter ones; what is over is not taken off.
	needFind(t, p, 256, 10, 1,
		spots.Spot{Left: 4, Top: 3, Right: 4, Low: 3, Pixels: 1, Light: 90, Star: api.Star{X: 4608, Y: 3584, Light: 90}},
		spots.Spot{Left: 1, Top: 2, Right: 1, Low: 2, Pixels: 1, Light: 20, Star: api.Star{X: 1536, Y: 2560, Light: 20}})
	needFind(t, p, 256, 89, 1, spots.Spot{Left: 4, Top: 3, Right: 4, Low: 3, Pixels: 1, Light: 90, Star: api.Star{X: 4608, Y: 3584, Light: 90}})
	needFind(t, p, 256, 90, 1)
	// The same on a ground of 1000.
	for i := range p.Counts {
		p.Counts[i] += 1000
	}
	needFind(t, p, 256, 0, 1, want)
}

// P112: a part goes on across tiles, each pixel less the ground of its own.
func TestSpotAcrossTiles(t *testing.T) {
	p := pic(6,
		10, 10, 10, 50, 50, 50,
		10, 10, 30, 60, 50, 50,
		10, 10, 10, 50, 50, 50)
	// 20 at x = 2, 10 at x = 3: (1024*70 + 512*30) / 30.
	needFind(t, p, 3, 0, 1, spots.Spot{Left: 2, Top: 1, Right: 3, Low: 1, Pixels: 2, Light: 30, Star: api.Star{X: 2901, Y: 1536, Light: 30}})
	needFind(t, p, 3, 0, 3)
	// In one tile the right half is brighter: the ground is 30.
	needFind(t, p, 6, 5, 1, spots.Spot{Left: 3, Top: 0, Right: 5, Low: 2, Pixels: 9, Light: 190, Star: api.Star{X: (1024*(3*70+4*60+5*60) + 512*190) / 190, Y: 1536, Light: 190}})
}

func starAt(s spots.Spot) [2]int { return [2]int{s.Star.X / 1024, s.Star.Y / 1024} }

// P112: the brightest first; of equal ones the upper one, then the one whose first pixel
// in its upper row is more to the left, wherever its box begins.
func TestOrder(t *testing.T) {
	for _, c := range []struct {
		rows []string
		want [][2]int // where their boxes begin
	}{
		{[]string{"1.2.3.", "......"}, [][2]int{{4, 0}, {2, 0}, {0, 0}}},
		{[]string{"3.2.1.", "......"}, [][2]int{{0, 0}, {2, 0}, {4, 0}}},
		{[]string{"2.2.2.....", "..........", "...2......"}, [][2]int{{0, 0}, {2, 0}, {4, 0}, {3, 2}}},
		{[]string{"......2...", "..........", "2.....2..."}, [][2]int{{6, 0}, {0, 2}, {6, 2}}},
		// More pixels are not more light.
		{[]string{"11.......2", "...111....", ".........."}, [][2]int{{3, 1}, {0, 0}, {9, 0}}},
		{[]string{"1111.....5", "..........", ".........."}, [][2]int{{9, 0}, {0, 0}}},
		// Both have the same light and begin in the same row; the second one's box begins
		// more to the left.
		{[]string{
			"...9......1......",
			".........1.......",
			"..1111111........",
			".................",
			".................",
		}, [][2]int{{3, 0}, {2, 0}}},
		// The same, and the first one's box does.
		{[]string{
			"...1..7..",
			"....1....",
			"....1....",
			"...1.....",
			".11......",
			"1........",
			".........",
			".........",
		}, [][2]int{{0, 0}, {6, 0}}},
	} {
		p := drawn(c.rows...)
		l, err := spots.Find(p, 1, 0, 1)
		if err != nil || len(l) != 0 {
			t.Fatal(l, err)
		}
		l, err = spots.Find(p, 256, 5, 1)
		var got [][2]int
		for _, s := range l {
			got = append(got, [2]int{s.Left, s.Top})
		}
		if err != nil || !slices.Equal(got, c.want) {
			t.Errorf("%q: %v, %v, want %v", c.rows, got, err, c.want)
		}
	}
}

// P112: as many as so many pixels, and more.
func TestLeast(t *testing.T) {
	p := drawn(
		"1.1.1..",
		"..1.1..",
		"....1..",
		".......",
		".......")
	for least, want := range map[int][][2]int{
		1:                {{4, 1}, {2, 1}, {0, 0}},
		2:                {{4, 1}, {2, 1}},
		3:                {{4, 1}},
		4:                nil,
		65536:            nil,
		math.MaxInt:      nil,
		math.MaxInt - 10: nil,
	} {
		l, err := spots.Find(p, 7, 0, least)
		var got [][2]int
		for _, s := range l {
			got = append(got, starAt(s))
		}
		if err != nil || !slices.Equal(got, want) {
			t.Errorf("%d or more: %v, %v, want %v", least, got, err, want)
		}
	}
}

// P112: nothing, and as much as there may be.
func TestFindEdges(t *testing.T) {
	needFind(t, pic(1, 65535), 1, 0, 1)
	needFind(t, even(256, 256, 65535), 256, 0, 1)
	needFind(t, even(256, 256, 65535), 7, 0, 1)
	// The lower middle one is dark: half of the picture is one spot.
	p := even(256, 256, 0)
	for i := range p.Counts {
		if i%256 >= 128 {
			p.Counts[i] = 65535
		}
	}
	light := 65535 * 32768
	needFind(t, p, 256, 65534, 32768, spots.Spot{Left: 128, Right: 255, Low: 255, Pixels: 32768, Light: light, Star: api.Star{X: 192 * 1024, Y: 128 * 1024, Light: light}})
	needFind(t, p, 256, 65534, 32769)
	needFind(t, p, 256, 65535, 1)
	needFind(t, p, 128, 0, 1)
	// As many spots as there may be, all equal.
	for i := range p.Counts {
		p.Counts[i] = 0
		if i%2 == 0 && i/256%2 == 0 {
			p.Counts[i] = 9
		}
	}
	l, err := spots.Find(p, 256, 0, 1)
	if err != nil || len(l) != 128*128 {
		t.Fatal(len(l), err)
	}
	for i, s := range l {
		x, y := i%128*2, i/128*2
		if want := (spots.Spot{Left: x, Top: y, Right: x, Low: y, Pixels: 1, Light: 9, Star: api.Star{X: 1024*x + 512, Y: 1024*y + 512, Light: 9}}); s != want {
			t.Fatalf("number %d: %v, want %v", i, s, want)
		}
	}
}

// P112, P4: pictures of all kinds, which stay as they are; what is answered is new.
func TestFind(t *testing.T) {
	dice := rand.New(rand.NewSource(112))
	for range 3000 {
		p := small(dice)
		old := slices.Clone(p.Counts)
		tile, over, least := 1+dice.Intn(14), dice.Intn([]int{1, 3, 1000, 70000}[dice.Intn(4)]), 1+dice.Intn(3)
		want := toldFind(p, tile, over, least)
		needFind(t, p, tile, over, least, want...)
		l, _ := spots.Find(p, tile, over, least)
		clear(l)
		needFind(t, p, tile, over, least, want...)
		if !slices.Equal(p.Counts, old) {
			t.Fatal("the picture was changed")
		}
	}
}

// P112: what is wrong.
func TestFindWrong(t *testing.T) {
	p := pic(2, 1, 2, 3, 4)
	for _, c := range [][3]int{
		{2, 0, 0}, {2, 0, -1}, {2, 0, math.MinInt}, {2, -1, 1}, {2, math.MinInt, 1}, {0, 0, 1}, {-1, 0, 1}, {257, 0, 1}, {0, -1, 0},
	} {
		if l, err := spots.Find(p, c[0], c[1], c[2]); len(l) != 0 || err != api.ErrShape {
			t.Errorf("%v: %v, %v", c, l, err)
		}
	}
	for _, c := range wrongs() {
		for _, n := range [][3]int{{2, 0, 1}, {0, 0, 1}, {2, -1, 1}, {2, 0, 0}, {257, -1, -1}} {
			if l, err := spots.Find(c.p, n[0], n[1], n[2]); len(l) != 0 || err != c.err {
				t.Errorf("%d by %d, %v: %v, %v, want %v", c.p.Wide, c.p.High, n, l, err, c.err)
			}
		}
	}
}
