package frame_test

import (
	"math"
	"math/rand"
	"slices"
	"testing"

	"meridian/api"
	"meridian/frame"
)

func needClean(t *testing.T, s frame.Set, p, want api.Picture, wantFull []int) {
	t.Helper()
	c, full, err := s.Clean(p)
	if err != nil || !same(c, want) || !slices.Equal(full, wantFull) {
		t.Fatalf("Clean of %v by %v = %v, %v, %v, want %v, %v", p, s, c, full, err, want, wantFull)
	}
}

// P102: cleaned pictures, written out.
func TestKnownCleans(t *testing.T) {
	for _, k := range []struct {
		wide, high, p, dark, flat, by, full int
		first                               []int
		sum, sumFull                        string
	}{
		{3, 2, 11, 12, 13, 64, 30000, []int{16839, 17800, 17835, 17832, 17817, 17195}, "8bcab44e22d393148b0499d5cdc8ef4d30ca4f0c92a78674bd0079a1bc88b903", "dcc1e3cc830c461dc675bd873d1103b0003007b91f66f777130fed278b608e83"},
		{7, 5, 21, 1, 3, 300, 65535, []int{0, 35991, 34191, 36665, 33926, 53452}, "e0ffe34764d2ddffa3abe55733c5f5338c5669dc4798bd5d8effdc137bbe844e", "e3b0c44298fc1c149afbf4c8996fb92427ae41e4649b934ca495991b7852b855"},
		{50, 40, 5, 6, 7, 7000, 1, []int{0, 31792, 31707, 0, 30603, 0}, "6873252a6eee064ea6c5b7578908c4b4e748fd79410846c60fd33c3cbc72d702", "380e80633f448d14dfbc2f03f7bb2a0f5bddc9475bac6c76319dacf9a5ee95a3"},
		{256, 256, 8, 9, 10, 2, 60000, []int{7853, 16251, 16331, 16194, 16344, 15649}, "253eb5e5185c31bd84f73fc5c868d53e33ee2af00c2622e5e1f2177780d604ce", "11d1ed8ef4fd7f343c352ca276f6c1247dbc7e297b10ff9916c6f7c26cf7725b"},
	} {
		s := frame.Set{Dark: parted(made(k.wide, k.high, k.dark), k.by), Flat: parted(made(k.wide, k.high, k.flat), k.by), Full: k.full}
		c, full, err := s.Clean(made(k.wide, k.high, k.p))
		if err != nil || c.Wide != k.wide || c.High != k.high || len(c.Counts) != k.wide*k.high {
			t.Fatal(c.Wide, c.High, len(c.Counts), err)
		}
		if !slices.Equal(c.Counts[:6], k.first) || sumOf(c.Counts) != k.sum || sumOf(full) != k.sumFull {
			t.Errorf("%d by %d: %v .., %d full", k.wide, k.high, c.Counts[:6], len(full))
		}
	}
}

// P102: the mean leaves out what saw nothing, and is rounded down; light is rounded to
// the nearest, from the middle up, and stays between none and the most.
func TestCleanAtEdges(t *testing.T) {
	for _, c := range []struct {
		dark, flat, p, want []int
	}{
		// The mean is 2: 7/3, rounded down.
		{[]int{0, 0, 0}, []int{2, 4, 1}, []int{65535, 1, 3}, []int{65535, 1, 6}},
		// It is 5 without the zeros.
		{[]int{0, 0, 0, 0}, []int{0, 5, 0, 5}, []int{9, 9, 0, 1}, []int{0, 9, 0, 1}},
		// It is 4: 4/8 is rounded up, 20/6 and 28/3 are rounded down.
		{[]int{0, 0, 0, 0, 0}, []int{4, 2, 6, 8, 3}, []int{1, 1, 5, 1, 7}, []int{1, 2, 3, 1, 9}},
		// 6/9, 3/6 and 4/8 are rounded up, 4/10 is rounded down.
		{[]int{0, 0}, []int{3, 9}, []int{2, 1}, []int{4, 1}},
		{[]int{0, 0}, []int{1, 6}, []int{2, 1}, []int{6, 1}},
		{[]int{0, 0}, []int{1, 8}, []int{2, 1}, []int{8, 1}},
		{[]int{0, 0, 0}, []int{1, 1, 10}, []int{2, 1, 1}, []int{8, 4, 0}},
		// Less than the dark is none.
		{[]int{5, 5, 5}, []int{1, 1, 1}, []int{4, 5, 6}, []int{0, 0, 1}},
		{[]int{65535, 65535}, []int{1, 1}, []int{0, 65535}, []int{0, 0}},
		// At most what a count may be.
		{[]int{0, 0}, []int{1, 65535}, []int{65535, 65535}, []int{65535, 32768}},
		{[]int{0, 0, 0}, []int{1, 2, 3}, []int{32767, 65535, 65535}, []int{65534, 65535, 43690}},
		{[]int{0, 0, 0}, []int{1, 2, 3}, []int{32768, 65534, 65533}, []int{65535, 65534, 43689}},
	} {
		wide := len(c.p)
		needClean(t, frame.Set{Dark: pic(wide, c.dark...), Flat: pic(wide, c.flat...), Full: api.MaxCount}, pic(wide, c.p...), pic(wide, c.want...), fullOf(c.p, api.MaxCount))
	}
}

func fullOf(l []int, full int) []int {
	var at []int
	for i, n := range l {
		if n >= full {
			at = append(at, i)
		}
	}
	return at
}

// P102: full is told of the counts as they came, row by row.
func TestFull(t *testing.T) {
	p := pic(2, 9, 10, 11, 0, 65535, 1)
	dark := pic(2, 9, 9, 9, 9, 9, 9)
	flat := pic(2, 1, 1, 0, 1, 0, 1)
	want := pic(2, 0, 1, 0, 0, 0, 0)
	for _, c := range []struct {
		full int
		at   []int
	}{
		{1, []int{0, 1, 2, 4, 5}},
		{9, []int{0, 1, 2, 4}},
		{10, []int{1, 2, 4}},
		{11, []int{2, 4}},
		{12, []int{4}},
		{65535, []int{4}},
	} {
		needClean(t, frame.Set{Dark: dark, Flat: flat, Full: c.full}, p, want, c.at)
	}
	c, full, err := frame.Set{Dark: dark, Flat: flat, Full: 65535}.Clean(dark)
	if err != nil || len(full) != 0 || !same(c, pic(2, 0, 0, 0, 0, 0, 0)) {
		t.Error(c, full, err)
	}
}

// P102, P4: pictures of all kinds, that stay as they are.
func TestClean(t *testing.T) {
	dice := rand.New(rand.NewSource(102))
	for range 3000 {
		p := small(dice)
		s := frame.Set{Dark: thrown(dice, p.Wide, p.High), Flat: thrown(dice, p.Wide, p.High), Full: 1 + dice.Intn(65535)}
		s.Flat.Counts[dice.Intn(len(s.Flat.Counts))] = 1 + dice.Intn(65535)
		want, full := toldClean(s, p)
		before := [][]int{slices.Clone(p.Counts), slices.Clone(s.Dark.Counts), slices.Clone(s.Flat.Counts)}
		needClean(t, s, p, want, full)
		c, at, _ := s.Clean(p)
		for i := range c.Counts {
			c.Counts[i] = -1
		}
		for i := range at {
			at[i] = -1
		}
		if !slices.Equal(before[0], p.Counts) || !slices.Equal(before[1], s.Dark.Counts) || !slices.Equal(before[2], s.Flat.Counts) {
			t.Fatal("the pictures were changed")
		}
		needClean(t, s, p, want, full)
	}
}

// P102, P3: wrong sets and pictures, and which error is told first.
func TestCleanWrong(t *testing.T) {
	good, other, wide, bad := pic(2, 1, 1), pic(1, 1, 1), api.Picture{Wide: 300, High: 1}, pic(2, 1, -1)
	dull := pic(2, 0, 0)
	for i, c := range []struct {
		p, dark, flat api.Picture
		full          int
		err           error
	}{
		{good, good, good, 1, nil},
		{good, good, good, 65535, nil},
		{dull, dull, good, 65535, nil},
		{good, good, good, 0, api.ErrShape},
		{good, good, good, -1, api.ErrShape},
		{good, good, good, 65536, api.ErrShape},
		{good, good, good, math.MinInt, api.ErrShape},
		{good, good, good, math.MaxInt, api.ErrShape},
		{good, good, dull, 1, api.ErrShape},
		{other, good, good, 1, api.ErrShape},
		{good, other, good, 1, api.ErrShape},
		{good, good, other, 1, api.ErrShape},
		{good, pic(3, 1, 1, 1), pic(3, 1, 1, 1), 1, api.ErrShape},
		{bad, good, good, 1, api.ErrShape},
		{good, bad, good, 1, api.ErrShape},
		{good, good, bad, 1, api.ErrShape},
		{api.Picture{}, api.Picture{}, api.Picture{}, 1, api.ErrShape},
		{wide, good, good, 1, api.ErrBound},
		{good, wide, good, 1, api.ErrBound},
		{good, good, wide, 1, api.ErrBound},
		{bad, wide, wide, 1, api.ErrShape},
		{wide, bad, bad, 1, api.ErrBound},
		{good, bad, wide, 1, api.ErrShape},
		{good, wide, bad, 1, api.ErrBound},
		{good, other, wide, 0, api.ErrBound},
		{good, wide, dull, 0, api.ErrBound},
	} {
		p, full, err := frame.Set{Dark: c.dark, Flat: c.flat, Full: c.full}.Clean(c.p)
		if err != c.err || err != nil && (!none(p) || len(full) != 0) {
			t.Errorf("%d: %v, %v, %v, want %v", i, p, full, err, c.err)
		}
	}
}
