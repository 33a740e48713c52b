package atlas_test

import (
	"cmp"
	"math"
	"math/rand"
	"slices"
	"strconv"
	"testing"

	"meridian/api"
	"meridian/atlas"
)

func needSeen(t *testing.T, a *atlas.Atlas, want int) {
	t.Helper()
	if n := a.Seen(); n != want {
		t.Fatalf("%d were looked at, want %d", n, want)
	}
}

// P154: asking begins anew; calls add up.
func TestSeen(t *testing.T) {
	a := opened(t, 6, named(made(40, 154, far)))
	needSeen(t, a, 0)
	needCone(t, a, to(1, 0, 0), -1, 1, toldCone(named(made(40, 154, far)), to(1, 0, 0), -1, 1))
	needSeen(t, a, 40)
	needSeen(t, a, 0)
	for range 3 {
		if _, err := a.Cone(to(1, 2, 3), -1, 1); err != nil {
			t.Fatal(err)
		}
	}
	needSeen(t, a, 120)
	if _, ok, err := a.Nearest(to(1, 2, 3)); !ok || err != nil {
		t.Fatal(err)
	}
	if n := a.Seen(); n < 1 || n > 40 {
		t.Error(n)
	}
	// One entry: it must be looked at.
	one := opened(t, 12, named([]api.Cell{to(1, 0, 0)}))
	needNearest(t, one, to(-1, 0, 0), "s0")
	needCone(t, one, to(1, 0, 0), 1, 1, []string{"s0"})
	needSeen(t, one, 2)
}

// P154, P3: what is wrong looks at nothing; neither do In, Size, Add and Cross.
func TestSeenNothing(t *testing.T) {
	a := opened(t, 6, named(made(40, 154, far)))
	a.Cone(to(0, 0, 0), 1, 1)
	a.Cone(to(1, 0, 0), 2, 1)
	a.Cone(to(1, 0, 0), 1, 0)
	a.Nearest(to(0, 0, 0))
	a.In(atlas.Spot{})
	a.Size()
	needAdd(t, a, "s0", to(1, 0, 0), api.ErrName)
	if _, err := atlas.Cross(a, a, -1, 1); err != nil {
		t.Error(err)
	}
	needSeen(t, a, 0)
	empty := opened(t, 3, nil)
	needCone(t, empty, to(1, 0, 0), -1, 1, nil)
	needNearest(t, empty, to(1, 0, 0), "")
	needSeen(t, empty, 0)
}

// P154, P2: at least at what is told, at none twice, and each time at as many.
func TestSeenWithin(t *testing.T) {
	dice := rand.New(rand.NewSource(154))
	for range 300 {
		level, l := dice.Intn(api.MaxLevel+1), named(scene(dice))
		a, b := opened(t, level, l), opened(t, level, l)
		for range 5 {
			d := aim(dice, l)
			num, den := width(dice)
			told, err := a.Cone(d, num, den)
			b.Cone(d, num, den)
			n := a.Seen()
			if err != nil || n < len(told) || n > len(l) {
				t.Fatal(n, len(told), len(l), err)
			}
			needSeen(t, b, n)
			a.Nearest(d)
			b.Nearest(d)
			n = a.Seen()
			if n > len(l) || n < min(1, len(l)) {
				t.Fatal(n, len(l))
			}
			needSeen(t, b, n)
		}
	}
}

// nearestFirst: not exactly, which does not matter here.
func nearestFirst(d api.Cell, l []api.Cell) []api.Cell {
	far := func(e api.Cell) float64 {
		return -float64(d.X*e.X+d.Y*e.Y+d.Z*e.Z) / math.Sqrt(float64(e.X*e.X+e.Y*e.Y+e.Z*e.Z))
	}
	slices.SortStableFunc(l, func(e, f api.Cell) int { return cmp.Compare(far(e), far(f)) })
	return l
}

// quarters: the cells of level 1, those that are nearest to a direction first, by what of
// many directions lies in them.
func quarters(d api.Cell) []atlas.Spot {
	var all []atlas.Spot
	for _, e := range nearestFirst(d, made(2000, 7, 1000)) {
		if s := toldCell(e, 1); !slices.Contains(all, s) {
			all = append(all, s)
		}
	}
	return all
}

// crowd of entries: as many in each of eight cells of level 1, those that are nearest to a
// direction, as near to it as there are some among many.
func crowd(dice *rand.Rand, d api.Cell, each int) []atlas.Entry {
	room := map[atlas.Spot]int{}
	for _, s := range quarters(d)[:8] {
		room[s] = each
	}
	var many, l []api.Cell
	for range 1000 {
		off := thrown(dice, 150)
		many = append(many, to(10*d.X+off.X, 10*d.Y+off.Y, 10*d.Z+off.Z), thrown(dice, 2000))
	}
	for _, e := range nearestFirst(d, many) {
		if s := toldCell(e, 1); room[s] > 0 {
			room[s]--
			l = append(l, e)
		}
	}
	return named(l)
}

// P154: at most half are looked at, wherever the cone is: also where it touches as many
// cells as it can, and all that are near stand there.
func TestSeenHalf(t *testing.T) {
	dice := rand.New(rand.NewSource(1540))
	const long = 97 // a cone of 99/100 reaches 14 aside from there
	for _, corner := range []api.Cell{
		to(1, 0, 0), to(0, -1, 0), to(0, 0, 1), to(1, 1, 0), to(-1, 0, 1), to(0, 1, -1), to(1, 1, 1), to(-1, 1, -1), to(-1, -1, -1), to(2, 1, 0), to(-1, 2, 2),
	} {
		for range 6 {
			off := thrown(dice, 13)
			d := to(long*corner.X+off.X, long*corner.Y+off.Y, long*corner.Z+off.Z)
			for _, each := range []int{1, 2, 20} {
				l := crowd(dice, d, each)
				if len(l) != 8*each {
					t.Fatal("too few entries", len(l), d)
				}
				for _, level := range []int{5, 6, 12} {
					needHalf(t, opened(t, level, l), l, d)
				}
			}
		}
	}
}

func needHalf(t *testing.T, a *atlas.Atlas, l []atlas.Entry, d api.Cell) {
	t.Helper()
	for _, c := range [][2]int{{99, 100}, {995, 1000}, {far - 1, far}, {1, 1}} {
		needCone(t, a, d, c[0], c[1], toldCone(l, d, c[0], c[1]))
		if n := a.Seen(); 2*n > a.Size() {
			t.Fatalf("%d of %d were looked at, by a cone of %d/%d around %v", n, a.Size(), c[0], c[1], d)
		}
	}
}

// P154: half of all it may well be, not fewer: four cells of an eighth each, full of what
// is in the cone.
func TestSeenJustHalf(t *testing.T) {
	var l []atlas.Entry
	for i := range 40 {
		for k, e := range []api.Cell{to(1000, 9+i, 9), to(1000, -9-i, 9), to(1000, 9+i, -9), to(1000, -9-i, -9)} {
			l = append(l, atlas.Entry{Name: "n" + strconv.Itoa(4*i+k), At: e}, atlas.Entry{Name: "f" + strconv.Itoa(4*i+k), At: to(-e.X, e.Y, e.Z)})
		}
	}
	a := opened(t, 5, l)
	if told, err := a.Cone(to(1, 0, 0), 99, 100); err != nil || len(told) != 160 {
		t.Error(len(told), err)
	}
	needSeen(t, a, 160)
}

// P154: entries all over the sky, and cones all over it.
func TestSeenLittle(t *testing.T) {
	dice := rand.New(rand.NewSource(15400))
	for _, most := range []int{3, 50, far} {
		l := named(made(600, most, most))
		for _, s := range quarters(to(1, 1, 1)) {
			n := 0
			for _, e := range l {
				if toldCell(e.At, 1) == s {
					n++
				}
			}
			if 8*n > len(l) {
				t.Fatal("too many in one cell", s, n)
			}
		}
		for _, level := range []int{5, 8, 12} {
			a := opened(t, level, l)
			for range 10 {
				needHalf(t, a, l, aim(dice, l))
			}
		}
	}
}
