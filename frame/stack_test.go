package frame_test

import (
	"math/rand"
	"slices"
	"testing"

	"meridian/api"
	"meridian/frame"
)

// P101: medians, written out.
func TestKnownStacks(t *testing.T) {
	for _, k := range []struct {
		wide, high, n int
		first         []int
		sum           string
	}{
		{3, 2, 1, []int{16960, 25879, 50636, 25695, 16592, 23327}, "92d106e07daed6aa951ad38dfdb8329cf37b34cd019a6196ba0f5941e27c0e97"},
		{7, 5, 5, []int{26793, 35749, 41156, 35639, 26573, 33345}, "22fa81a24f3fa0ac6ad18cee7b30d17361122a3c7c13613e9c81cebf630d6acb"},
		{16, 16, 64, []int{30096, 34921, 35076, 35705, 31248, 35261}, "28003e82692cc26b51dc37238899ce40ce3d526f565aa26dd1f9c4bfdb39ff94"},
		{256, 256, 63, []int{30673, 35407, 35076, 36765, 32229, 35261}, "b53e09ec056fd44616ea62cfadd887c64baea38279c534269ffb86a9774ae8c6"},
	} {
		var l []api.Picture
		for i := range k.n {
			l = append(l, made(k.wide, k.high, 1000+37*i))
		}
		p, err := frame.Stack(l)
		if err != nil || p.Wide != k.wide || p.High != k.high || len(p.Counts) != k.wide*k.high {
			t.Fatal(p.Wide, p.High, len(p.Counts), err)
		}
		if !slices.Equal(p.Counts[:6], k.first) || sumOf(p.Counts) != k.sum {
			t.Errorf("%d of %d by %d: %v ..", k.n, k.wide, k.high, p.Counts[:6])
		}
	}
}

// P101: of an even number the lower middle one, wherever it stands.
func TestStackMiddle(t *testing.T) {
	for _, c := range []struct {
		l    []int
		want int
	}{
		{[]int{7}, 7},
		{[]int{7, 9}, 7},
		{[]int{9, 7}, 7},
		{[]int{9, 7, 8}, 8},
		{[]int{4, 1, 3, 2}, 2},
		{[]int{0, 65535, 65535, 0}, 0},
		{[]int{65535, 0, 65535}, 65535},
		{[]int{5, 5, 5, 1, 1, 1}, 1},
		{[]int{5, 5, 5, 1, 1}, 5},
	} {
		var l []api.Picture
		for _, n := range c.l {
			l = append(l, pic(1, n))
		}
		if p, err := frame.Stack(l); err != nil || !same(p, pic(1, c.want)) {
			t.Errorf("%v: %v, %v, want %d", c.l, p, err, c.want)
		}
	}
}

// P101, P4: stacks of all numbers, whose pictures stay as they are.
func TestStack(t *testing.T) {
	dice := rand.New(rand.NewSource(101))
	for i := range 640 {
		first := small(dice)
		l := []api.Picture{first}
		for range i % 64 {
			l = append(l, thrown(dice, first.Wide, first.High))
		}
		var before []api.Picture
		for _, p := range l {
			before = append(before, api.Picture{Wide: p.Wide, High: p.High, Counts: slices.Clone(p.Counts)})
		}
		got, err := frame.Stack(l)
		if err != nil || got.Wide != first.Wide || got.High != first.High || len(got.Counts) != len(first.Counts) {
			t.Fatal(got, err)
		}
		for k, n := range got.Counts {
			var counts []int
			for _, p := range l {
				counts = append(counts, p.Counts[k])
			}
			if n != toldMedian(counts) {
				t.Fatalf("the median of %v is %d, not %d", counts, toldMedian(counts), n)
			}
		}
		for k := range got.Counts {
			got.Counts[k] = -1
		}
		if !slices.EqualFunc(l, before, same) {
			t.Fatal("the pictures were changed")
		}
	}
}

// P101, P3: wrong stacks, and which error is told first.
func TestStackWrong(t *testing.T) {
	good, other, wide := pic(2, 1, 1), pic(1, 1, 1), api.Picture{Wide: 300, High: 1}
	many := func(n int, p api.Picture) []api.Picture { return slices.Repeat([]api.Picture{p}, n) }
	for i, c := range []struct {
		l   []api.Picture
		err error
	}{
		{many(64, good), nil},
		{many(65, good), api.ErrBound},
		{make([]api.Picture, 65), api.ErrBound},
		{nil, api.ErrShape},
		{[]api.Picture{}, api.ErrShape},
		{make([]api.Picture, 64), api.ErrShape},
		{[]api.Picture{{}}, api.ErrShape},
		{[]api.Picture{good, {}}, api.ErrShape},
		{[]api.Picture{good, pic(2, 1, 65536)}, api.ErrShape},
		{[]api.Picture{good, good, wide}, api.ErrBound},
		{[]api.Picture{wide, {}}, api.ErrBound},
		{[]api.Picture{{}, wide}, api.ErrShape},
		{[]api.Picture{good, other}, api.ErrShape},
		{[]api.Picture{good, good, pic(2, 1, 1, 1, 1)}, api.ErrShape},
		{[]api.Picture{good, good, pic(3, 1, 1, 1)}, api.ErrShape},
		{[]api.Picture{good, other, wide}, api.ErrBound},
	} {
		if p, err := frame.Stack(c.l); err != c.err || err != nil && !none(p) {
			t.Errorf("%d: %v, %v, want %v", i, p, err, c.err)
		}
	}
}
