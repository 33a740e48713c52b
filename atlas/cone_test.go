package atlas_test

import (
	"math/rand"
	"slices"
	"strings"
	"testing"

	"meridian/api"
	"meridian/atlas"
)

// P152, P153: cones and nearest ones, written out.
func TestKnownCones(t *testing.T) {
	for _, k := range []struct {
		seed, most, many, aim, num, den int
		want, nearest                   string
	}{
		{1, 5, 60, 90, 3, 5, "s0 s15 s22 s23 s26 s41 s5 s53 s59", "s5"},
		{2, 5, 60, 91, 99, 100, "s46", "s46"},
		{3, far, 200, 92, 95, 100, "s110 s138 s189", "s138"},
		{4, far, 24, 93, -1, 2, "s0 s1 s11 s12 s13 s14 s17 s2 s20 s21 s22 s23 s4 s5 s6 s7 s8", "s14"},
		{9, 2, 80, 95, 1, 1, "s31 s46 s67", "s31"},
		{6, 2, 24, 95, 0, 1, "s0 s10 s11 s12 s13 s15 s16 s18 s19 s2 s20 s21 s4 s5 s7 s8", "s15"},
		{7, far, 400, 96, 1030000, 1048576, "s154 s18 s187 s22 s272 s275 s390", "s18"},
		{8, 3, 60, 97, 1, 3, "s13 s18 s24 s25 s26 s28 s30 s31 s34 s35 s41 s42 s45 s5 s55 s56 s6 s8 s9", "s34"},
	} {
		d := made(1, k.aim, k.most)[0]
		for level := range api.MaxLevel + 1 {
			a := opened(t, level, named(made(k.many, k.seed, k.most)))
			needCone(t, a, d, k.num, k.den, strings.Fields(k.want))
			needNearest(t, a, d, k.nearest)
		}
	}
}

// P152: just at the edge, and just beyond it, where numbers with a point would not tell.
func TestConeEdges(t *testing.T) {
	for _, c := range []struct {
		d, e     api.Cell
		num, den int
		in       bool
	}{
		{to(1, 0, 0), to(3, 4, 0), 3, 5, true},
		{to(1, 0, 0), to(3, 4, 0), 629146, 1048576, false}, // 3/5 is 629145.6 of them
		{to(1, 0, 0), to(3, 4, 0), 629145, 1048576, true},
		{to(1, 0, 0), to(-3, 4, 0), -3, 5, true},
		{to(1, 0, 0), to(-3, 4, 0), -629145, 1048576, false},
		{to(1, 0, 0), to(-3, 4, 0), -629146, 1048576, true},
		{to(1, 1, 1), to(far, far, far), 1, 1, true},
		{to(far, far-1, 0), to(far-1, far-2, 0), 1, 1, false},
		{to(far, far-1, 0), to(far-1, far-2, 0), far - 1, far, true},
		{to(far, far, far), to(far, far, far-1), 1, 1, false},
		{to(far, far, far), to(far-1, far-1, far-1), 1, 1, true},
		{to(far, far, far), to(-far, -far, -far), -1, 1, true},
		{to(far, far, far), to(-far, -far, -far), 1 - far, far, false},
		{to(far, far, far), to(-far, -far, 1-far), 1 - far, far, false},
		{to(0, 5, 0), to(7, 0, 7), 0, 1, true},
		{to(0, 5, 0), to(7, 0, 7), 0, far, true},
		{to(0, 5, 0), to(7, 0, 7), 1, far, false},
		{to(0, 5, 0), to(7, 0, 7), -1, far, true},
		{to(far, 1, 0), to(-1, far, 0), 0, 1, true},
		{to(far, 1, 0), to(-2, far, 0), 0, 1, false},
		{to(far, 1, 0), to(-2, far, 0), -1, far, true},
		{to(1, 1, 0), to(1, 0, 0), 741455, far, true}, // the root of 1/2 is 741455.2 of them
		{to(1, 1, 0), to(1, 0, 0), 741456, far, false},
		{to(1, 1, 0), to(-1, 0, 0), -741455, far, false},
		{to(1, 1, 0), to(-1, 0, 0), -741456, far, true},
		{to(1, 2, 2), to(2, 1, 2), 8, 9, true},
		{to(1, 2, 2), to(2, 1, 2), 932068, far, false},
		{to(1, 2, 2), to(2, 1, 2), 932067, far, true},
	} {
		var want []string
		if c.in {
			want = []string{"s0"}
		}
		for level := range api.MaxLevel + 1 {
			needCone(t, opened(t, level, named([]api.Cell{c.e})), c.d, c.num, c.den, want)
			needCone(t, opened(t, level, named([]api.Cell{c.d})), c.e, c.num, c.den, want)
		}
	}
}

// P152: all kinds of atlases and cones.
func TestCones(t *testing.T) {
	dice := rand.New(rand.NewSource(152))
	some := 0
	for range 2000 {
		l := named(scene(dice))
		a := opened(t, dice.Intn(api.MaxLevel+1), l)
		for range 5 {
			d := aim(dice, l)
			num, den := width(dice)
			want := toldCone(l, d, num, den)
			needCone(t, a, d, num, den, want)
			if len(want) > 0 && len(want) < len(l) {
				some++
			}
		}
	}
	if some < 2000 {
		t.Error("too few cones that have some:", some)
	}
}

// P152: many entries; the names are rising as texts.
func TestConeMany(t *testing.T) {
	dice := rand.New(rand.NewSource(1520))
	l := named(made(1000, 1520, far))
	for _, level := range []int{0, 1, 2, 5, 9, 12} {
		a := opened(t, level, l)
		for range 4 {
			d := aim(dice, l)
			num, den := width(dice)
			needCone(t, a, d, num, den, toldCone(l, d, num, den))
		}
	}
}

// P152: what is wrong.
func TestConeWrong(t *testing.T) {
	a := opened(t, 3, named(made(50, 4, far)))
	need := func(d api.Cell, num, den int) {
		t.Helper()
		if l, err := a.Cone(d, num, den); len(l) != 0 || err != api.ErrShape {
			t.Error(d, num, den, l, err)
		}
	}
	for _, d := range noDirections() {
		need(d, 1, 1)
		need(d, 2, 1)
	}
	for _, c := range noCosines() {
		need(to(1, 2, 3), c[0], c[1])
		need(to(0, 0, 0), c[0], c[1])
		if l, err := opened(t, 0, nil).Cone(to(1, 2, 3), c[0], c[1]); len(l) != 0 || err != api.ErrShape {
			t.Error(c, l, err)
		}
	}
	for _, c := range [][2]int{{far, far}, {-far, far}, {1, 1}, {-1, 1}, {0, 1}, {0, far}} {
		if _, err := a.Cone(to(far, -far, far), c[0], c[1]); err != nil {
			t.Error(c, err)
		}
	}
}

// P153: of equal cosines the least name, whatever was added first, however far out it is.
func TestNearestEqual(t *testing.T) {
	for level := range api.MaxLevel + 1 {
		for _, l := range [][]atlas.Entry{
			{{Name: "b", At: to(1, 1, 0)}, {Name: "a", At: to(far, far, 0)}, {Name: "c", At: to(3, 3, 0)}},
			{{Name: "c", At: to(5, 0, 1)}, {Name: "a", At: to(5, 1, 0)}, {Name: "b", At: to(5, -1, 0)}},
			{{Name: "b", At: to(0, 5, 0)}, {Name: "A", At: to(-5, 0, 0)}, {Name: "a", At: to(0, 0, -5)}},
			{{Name: "b", At: to(-far, 0, 0)}, {Name: "aa", At: to(-1, 0, 0)}, {Name: "a", At: to(-2, 0, 0)}},
			{{Name: "b", At: to(-5, 0, 3)}, {Name: "a\xff", At: to(-5, 3, 0)}, {Name: "a", At: to(-10, 0, 6)}},
		} {
			needNearest(t, opened(t, level, l), to(7, 0, 0), "a")
			slices.Reverse(l)
			needNearest(t, opened(t, level, l), to(1, 0, 0), "a")
		}
	}
}

// P153: so near that only exact numbers tell.
func TestNearestExact(t *testing.T) {
	for level := range api.MaxLevel + 1 {
		a := opened(t, level, []atlas.Entry{
			{Name: "a", At: to(far, far-2, 0)}, {Name: "b", At: to(far, far-1, 0)}, {Name: "c", At: to(far, far-3, 0)},
			{Name: "d", At: to(far-1, far-2, 0)}, {Name: "e", At: to(far-1, far-1, 1)},
		})
		needNearest(t, a, to(1, 1, 0), "b")
		needNearest(t, a, to(far, far, 1), "e")
		needNearest(t, a, to(far-1, far-2, 0), "d")
		needNearest(t, a, to(far, far-2, -1), "a")
		needNearest(t, a, to(0, -1, 0), "c")
		needNearest(t, a, to(-1, 0, 0), "e")
	}
}

// P153: all kinds of atlases and directions.
func TestNearest(t *testing.T) {
	dice := rand.New(rand.NewSource(153))
	for range 2000 {
		l := named(scene(dice))
		a := opened(t, dice.Intn(api.MaxLevel+1), l)
		for range 3 {
			d, want := aim(dice, l), ""
			if len(l) > 0 {
				want = toldNearest(l, d).Name
			}
			needNearest(t, a, d, want)
		}
	}
}

// P153: no direction, also where there is nothing.
func TestNearestWrong(t *testing.T) {
	for _, a := range []*atlas.Atlas{opened(t, 3, named(made(50, 4, far))), opened(t, 0, nil)} {
		for _, d := range noDirections() {
			if name, ok, err := a.Nearest(d); name != "" || ok || err != api.ErrShape {
				t.Error(d, name, ok, err)
			}
		}
	}
	needNearest(t, opened(t, 12, nil), to(far, far, far), "")
}
