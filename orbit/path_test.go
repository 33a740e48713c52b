package orbit_test

import (
	"math"
	"math/rand"
	"slices"
	"testing"

	"meridian/api"
	"meridian/bits"
	"meridian/orbit"
)

// planet, comet: two orbits, one that is nearly round and a long one.
func planet() orbit.Elements {
	return orbit.Elements{
		A: 1.00000261, E: 0.01671123, Tilt: -5566000, Peri: 370729000000, Mean: -8929000000, Epoch: 43200000000, Daily: 3548192000,
	}
}

func comet() orbit.Elements {
	return orbit.Elements{
		A: 17.834, E: 0.96714, Tilt: 584145684000, Node: 210312000000, Peri: 400796964000, Mean: 138182400000,
		Epoch: -182000000000000, Daily: 47098000,
	}
}

// P62: At, written out.
func TestKnownAt(t *testing.T) {
	odd := orbit.Elements{
		A: 3.7, E: 0.123, Tilt: -api.MaxAngle, Node: api.MaxAngle, Peri: api.MaxAngle - 1, Mean: -api.MaxAngle,
		Epoch: -api.MaxTime, Daily: 100 * api.Turn,
	}
	for _, c := range []struct {
		k    orbit.Elements
		t    int
		want string
	}{
		{planet(), 0, "bfc5a6f6034ab666 3feeff39952f8ab4 befb689bc72902d7"},
		{planet(), 43200000000, "bfc6c1025e97fab9 3feef28770389087 befb5d61e27126f5"},
		{planet(), 123456789012345678, "bfda98cf8919eb1c 3fec878b27ad4ce4 bef93a0da881e2a2"},
		{planet(), -api.MaxTime, "3feff13a7806e73b 3fb67388b3ea1e41 bec3da2c9c8c1a24"},
		{planet(), api.MaxTime, "bfeeeb0dec5837f3 bfd09413746d10fb 3edd5186bbf3ceef"},
		{comet(), 0, "c0315670a6785705 4030e0a3fa97ffff c01e34aa8e6ebba7"},
		{comet(), -182000000000000, "c02be1bda8474ba3 4026f405eb1699cb c016e27914635fb2"},
		{comet(), 700000000000000, "c0340f6fe1c7daf9 403af028875b2cda c023f5036fcb1ac3"},
		{comet(), api.MaxTime, "c03464f52258ef61 4038c1c2858c31da c023688cd37e052b"},
		{odd, api.MaxTime, "c006d95ba75d0604 400780fd4216816f 3fe59e001a109843"},
		{odd, 0, "3ff5fde140633710 40098073252b15a2 3ffba5d775abc187"},
		{odd, -api.MaxTime, "4008d095c5aa17c2 bff20dbad2fc7865 3fc7dfd121f90ea7"},
		{orbit.Elements{A: 2, E: 0.5}, 5, "3ff0000000000000 0000000000000000 0000000000000000"},
	} {
		got, err := c.k.At(c.t)
		if err != nil {
			t.Error(c.k, err)
		}
		needBits(t, "At", got, c.want)
	}
}

// P62: At, written out, at the edges: -0 as the formulas give it, numbers that are
// too great or too small, which are no error.
func TestAtEdges(t *testing.T) {
	for _, c := range []struct {
		k    orbit.Elements
		want string
	}{
		{orbit.Elements{A: 1, Mean: api.Turn / 4}, "8000000000000000 3ff0000000000000 0000000000000000"},
		{orbit.Elements{A: 1, E: minusZero, Mean: api.Turn / 4}, "0000000000000000 3ff0000000000000 0000000000000000"},
		{
			orbit.Elements{A: 5, E: 1 - 0x1p-53, Tilt: 10 * degree, Node: 20 * degree, Peri: 30 * degree, Mean: 40 * degree},
			"c00ce8bda2b84627 c010ff4034b805b7 bfdf1d018119f5a6",
		},
		{
			orbit.Elements{A: 0x1p-1074, E: 0.25, Tilt: 30 * degree, Node: 40 * degree, Peri: 50 * degree, Mean: 7 * degree},
			"0000000000000000 0000000000000002 0000000000000000",
		},
		{
			orbit.Elements{A: 1.7e308, E: 0.9, Tilt: degree, Node: 2 * degree, Peri: 3 * degree, Mean: api.Turn / 2},
			"7ff8000000000000 fff0000000000000 fff0000000000000",
		},
		{orbit.Elements{A: 1.7e308, E: 0.9, Mean: api.Turn / 2}, "7ff8000000000000 7ff8000000000000 7ff8000000000000"},
	} {
		got, err := c.k.At(0)
		if err != nil {
			t.Error(c.k, err)
		}
		needBits(t, "At", got, c.want)
	}
}

// P62: At to the bit, of elements of all sizes.
func TestAt(t *testing.T) {
	dice := rand.New(rand.NewSource(64))
	for range 10000 {
		k, n := elements(dice), sized(dice, api.MaxTime)
		got, err := k.At(n)
		if want := toldAt(k, n); err != nil || !sameVec(got, want) {
			t.Fatalf("At(%d) of %v = %s, %v, want %s", n, k, textOf(got), err, textOf(want))
		}
	}
}

// P62: a body goes round an ellipse: it is never nearer than A * (1 - E), nor farther
// than A * (1 + E), and it comes by both.
func TestEllipse(t *testing.T) {
	k := orbit.Elements{A: 3, E: 0.4, Tilt: 33 * degree, Node: -100 * degree, Peri: 77 * degree, Daily: degree}
	for day := range 361 {
		v, err := k.At(day * api.DayLong)
		far := bits.Length(v)
		if err != nil || far < 1.8-1e-12 || far > 4.2+1e-12 {
			t.Errorf("day %d: %v, %v", day, far, err)
		}
		if day%360 == 0 && far > 1.8+1e-12 || day == 180 && far < 4.2-1e-12 {
			t.Errorf("day %d: %v", day, far)
		}
	}
}

// P62: Path is At of each instant, in new memory; the list is as it was, and what
// lies behind its length is not gone to.
func TestPath(t *testing.T) {
	dice := rand.New(rand.NewSource(65))
	for range 100 {
		k, l := elements(dice), []int{}
		for range dice.Intn(20) {
			l = append(l, sized(dice, api.MaxTime))
		}
		long := append(slices.Clone(l), math.MinInt)
		path, err := k.Path(long[:len(l)])
		if err != nil || len(path) != len(l) {
			t.Fatalf("%v: %v, %v", k, path, err)
		}
		for i, n := range l {
			if want, _ := k.At(n); !sameVec(path[i], want) {
				t.Fatalf("Path(%v)[%d] of %v = %v, want %v", l, i, k, path[i], want)
			}
		}
		if !slices.Equal(long[:len(l)], l) || long[len(l)] != math.MinInt {
			t.Fatalf("%v has become %v", l, long)
		}
	}
	one, _ := planet().Path([]int{0, 0})
	two, _ := planet().Path([]int{0, 0})
	one[0].X = 77
	if one[1].X == 77 || two[0].X == 77 {
		t.Error("one memory")
	}
}

// P62: paths without an instant, as long as they may be, and too long.
func TestPathLong(t *testing.T) {
	for _, l := range [][]int{nil, {}} {
		for _, k := range []orbit.Elements{planet(), {}} { // no At, no error
			if path, err := k.Path(l); err != nil || len(path) != 0 {
				t.Error(path, err)
			}
		}
	}
	long := make([]int, api.MaxList+1)
	path, err := comet().Path(long[1:])
	want, _ := comet().At(0)
	if err != nil || len(path) != api.MaxList || !sameVec(path[api.MaxList-1], want) {
		t.Error(len(path), err)
	}
	for _, first := range []int{0, api.MaxTime + 1} {
		long[0] = first
		for _, k := range []orbit.Elements{planet(), {}} { // ahead of every other error
			if path, err := k.Path(long); err != api.ErrBound || len(path) != 0 {
				t.Error(len(path), err)
			}
		}
	}
}

// P62: the first error of a path, wherever it is.
func TestPathErrors(t *testing.T) {
	for _, n := range noInstants {
		for _, l := range [][]int{{n}, {n, 0}, {0, n}, {0, 1, n, 2, n}} {
			if path, err := planet().Path(l); err != api.ErrTime || len(path) != 0 {
				t.Error(l, path, err)
			}
			k := planet()
			k.Daily = n
			if path, err := k.Path(l); err != api.ErrBound || len(path) != 0 {
				t.Error(l, path, err)
			}
		}
	}
}
