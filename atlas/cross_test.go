package atlas_test

import (
	"math/rand"
	"slices"
	"strconv"
	"testing"

	"meridian/api"
	"meridian/atlas"
)

// P153: pairs, written out.
func TestKnownCross(t *testing.T) {
	for _, k := range []struct {
		seedA, manyA, seedB, manyB, most, num, den int
		want                                       [][2]string
	}{
		{1, 12, 2, 9, far, -1, 1, [][2]string{{"s0", "s0"}, {"s10", "s2"}, {"s11", "s1"}, {"s4", "s5"}, {"s5", "s7"}, {"s6", "s6"}, {"s8", "s4"}}},
		{1, 12, 2, 9, far, 9, 10, [][2]string{{"s0", "s0"}, {"s11", "s1"}, {"s5", "s7"}}},
		{3, 15, 4, 15, 2, 1, 1, [][2]string{{"s14", "s6"}, {"s5", "s8"}}},
		{5, 20, 6, 30, 7, 97, 100, [][2]string{{"s11", "s26"}, {"s12", "s21"}, {"s19", "s22"}}},
	} {
		for level := range api.MaxLevel + 1 {
			a := opened(t, level, named(made(k.manyA, k.seedA, k.most)))
			b := opened(t, api.MaxLevel-level, named(made(k.manyB, k.seedB, k.most)))
			needCross(t, a, b, k.num, k.den, k.want)
		}
	}
}

// P153: of entries in one direction only the least names are each other's nearest.
func TestCrossEqual(t *testing.T) {
	a := opened(t, 4, []atlas.Entry{{Name: "y", At: to(1, 2, 3)}, {Name: "x", At: to(2, 4, 6)}, {Name: "z", At: to(-9, 0, 0)}, {Name: "w", At: to(0, 5, 0)}})
	b := opened(t, 0, []atlas.Entry{{Name: "n", At: to(3, 6, 9)}, {Name: "m", At: to(1, 2, 3)}, {Name: "z", At: to(0, 9, 0)}})
	needCross(t, a, b, 1, 1, [][2]string{{"w", "z"}, {"x", "m"}})
	needCross(t, b, a, 1, 1, [][2]string{{"m", "x"}, {"z", "w"}})
	needCross(t, a, a, 1, 1, [][2]string{{"w", "w"}, {"x", "x"}, {"z", "z"}})
	needCross(t, a, a, -1, 1, [][2]string{{"w", "w"}, {"x", "x"}, {"z", "z"}})
	// One that is nearest to two, and far from both.
	c := opened(t, 7, []atlas.Entry{{Name: "only", At: to(0, -5, 0)}})
	needCross(t, a, c, -1, 1, [][2]string{{"z", "only"}})
	needCross(t, c, a, 0, 1, [][2]string{{"only", "z"}})
	needCross(t, c, a, 1, far, nil)
}

// renamed entries: t0, t1, ..
func renamed(l []atlas.Entry) []atlas.Entry {
	for i := range l {
		l[i].Name = "t" + strconv.Itoa(i)
	}
	return l
}

// P153: all kinds of atlases, also such as have directions of each other.
func TestCross(t *testing.T) {
	dice := rand.New(rand.NewSource(1530))
	for range 150 {
		k, l := named(scene(dice)), named(scene(dice))
		if dice.Intn(4) == 0 {
			l = renamed(slices.Concat(l, k[:len(k)/2]))
		}
		dice.Shuffle(len(k), func(i, j int) { k[i], k[j] = k[j], k[i] })
		a, b := opened(t, dice.Intn(api.MaxLevel+1), k), opened(t, dice.Intn(api.MaxLevel+1), l)
		num, den := width(dice)
		needCross(t, a, b, num, den, toldCross(k, l, num, den))
		needCross(t, a, b, -1, 1, toldCross(k, l, -1, 1))
		if a.Size() != len(k) || b.Size() != len(l) {
			t.Fatal("an atlas was changed")
		}
	}
}

// P153: atlases without entries.
func TestCrossNothing(t *testing.T) {
	some, none := opened(t, 3, named(made(5, 1, 9))), opened(t, 3, nil)
	for _, c := range [][2]*atlas.Atlas{{nil, nil}, {nil, some}, {some, nil}, {none, some}, {some, none}, {none, none}, {nil, none}} {
		needCross(t, c[0], c[1], -1, 1, nil)
		for _, wrong := range noCosines() {
			if l, err := atlas.Cross(c[0], c[1], wrong[0], wrong[1]); len(l) != 0 || err != api.ErrShape {
				t.Error(wrong, l, err)
			}
		}
	}
}

// P153: what is wrong.
func TestCrossWrong(t *testing.T) {
	a, b := opened(t, 3, named(made(50, 4, far))), opened(t, 5, named(made(50, 5, far)))
	for _, c := range noCosines() {
		if l, err := atlas.Cross(a, b, c[0], c[1]); len(l) != 0 || err != api.ErrShape {
			t.Error(c, l, err)
		}
	}
}

// P4: an answer is the caller's own.
func TestCrossMemory(t *testing.T) {
	a := opened(t, 3, named([]api.Cell{to(1, 0, 0), to(0, 1, 0)}))
	l, err := atlas.Cross(a, a, 1, 1)
	if err != nil || len(l) != 2 {
		t.Fatal(l, err)
	}
	l[0], l[1] = [2]string{"x", "y"}, [2]string{}
	needCross(t, a, a, 1, 1, [][2]string{{"s0", "s0"}, {"s1", "s1"}})
}

// P1, P153: many that are all as near.
func TestCrossMany(t *testing.T) {
	var l, k []api.Cell
	for i := range api.MaxList {
		l = append(l, to(1+i, 0, 0))
		k = append(k, to(0, i-api.MaxList/2, 1+i))
	}
	a, b := opened(t, 12, named(l[:500])), opened(t, 12, named(k))
	needCross(t, a, b, -1, 1, [][2]string{{"s0", "s0"}})
	needCross(t, b, a, 0, 1, [][2]string{{"s0", "s0"}})
	needCross(t, a, b, 1, far, nil)
}
