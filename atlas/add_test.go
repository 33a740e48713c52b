package atlas_test

import (
	"math"
	"math/rand"
	"slices"
	"strconv"
	"strings"
	"testing"

	"meridian/api"
	"meridian/atlas"
)

// P151: levels.
func TestNew(t *testing.T) {
	for level := range api.MaxLevel + 1 {
		a, err := atlas.New(level)
		if err != nil || a == nil || a.Size() != 0 || a.Seen() != 0 {
			t.Error(level, a, err)
		}
	}
	for _, level := range []int{math.MinInt, -1, 13, math.MaxInt} {
		if a, err := atlas.New(level); a != nil || err != api.ErrBound {
			t.Error(level, a, err)
		}
	}
}

func needAdd(t *testing.T, a *atlas.Atlas, name string, at api.Cell, want error) {
	t.Helper()
	size := a.Size()
	if want == nil {
		size++
	}
	if err := a.Add(atlas.Entry{Name: name, At: at, Light: -5}); err != want || a.Size() != size {
		t.Fatalf("Add(%q, %v): %v, want %v; size %d", name, at, err, want, a.Size())
	}
}

// P151: names: of bytes, whatever they are.
func TestNames(t *testing.T) {
	a := opened(t, 3, nil)
	good := to(1, 2, 3)
	for _, name := range []string{"a", " ", "A", "\x00", "\xff\xfe", strings.Repeat("x", 40), strings.Repeat("é", 20), strings.Repeat("\xff", 40)} {
		needAdd(t, a, name, good, nil)
		needAdd(t, a, name, good, api.ErrName)
		needAdd(t, a, name, to(9, 9, 9), api.ErrName)
	}
	for _, name := range []string{"", strings.Repeat("x", 41), strings.Repeat("é", 21), strings.Repeat("x", 100000), "a", "\xff\xfe"} {
		needAdd(t, a, name, good, api.ErrName)
	}
	s, _ := atlas.CellOf(good, 3)
	if l := a.In(s); len(l) != 8 || !slices.IsSorted(l) {
		t.Errorf("%q", l)
	}
}

// P151: the first error of several; what was refused is not there.
func TestAddWrong(t *testing.T) {
	a := opened(t, 4, named([]api.Cell{to(1, 0, 0)}))
	for _, d := range noDirections() {
		needAdd(t, a, "", d, api.ErrName)
		needAdd(t, a, "s0", d, api.ErrName)
		needAdd(t, a, strings.Repeat("x", 41), d, api.ErrName)
		needAdd(t, a, "new", d, api.ErrShape)
	}
	needNearest(t, a, to(-1, 0, 0), "s0")
	needCone(t, a, to(1, 0, 0), -1, 1, []string{"s0"})
	needAdd(t, a, "new", to(far, -far, far), nil)
	needCone(t, a, to(1, 0, 0), -1, 1, []string{"new", "s0"})
}

// P151: as many as there may be.
func TestFull(t *testing.T) {
	a := opened(t, 12, named(made(api.MaxList-1, 151, far)))
	needAdd(t, a, "last", to(0, 0, 1), nil)
	if a.Size() != api.MaxList {
		t.Error(a.Size())
	}
	for range 2 {
		needAdd(t, a, "more", to(0, 0, 1), api.ErrBound)
		needAdd(t, a, "more", to(0, 0, 0), api.ErrShape)
		needAdd(t, a, "last", to(0, 0, 0), api.ErrName)
		needAdd(t, a, "", to(0, 0, 1), api.ErrName)
	}
	if l, err := a.Cone(to(0, 0, 1), -1, 1); err != nil || len(l) != api.MaxList || slices.Contains(l, "more") {
		t.Error(len(l), err)
	}
	needNearest(t, a, to(0, 0, 5), "last")
}

// P151: names of cells of each level, rising; each entry in one cell of each level.
func TestIn(t *testing.T) {
	dice := rand.New(rand.NewSource(151))
	for range 300 {
		level, l := dice.Intn(api.MaxLevel+1), named(scene(dice))
		a := opened(t, level, l)
		for deep := range api.MaxLevel + 1 {
			want := map[atlas.Spot][]string{}
			for _, e := range l {
				s := toldCell(e.At, deep)
				want[s] = append(want[s], e.Name)
			}
			for s, names := range want {
				slices.Sort(names)
				if deep > level {
					names = nil
				}
				if got := a.In(s); !slices.Equal(got, names) {
					t.Fatalf("level %d: In(%v) = %q, want %q", level, s, got, names)
				}
				next := s
				next.Col ^= 1
				if _, there := want[next]; !there && len(a.In(next)) != 0 {
					t.Fatal(next, a.In(next))
				}
			}
		}
	}
}

// P151: nothing in what is no cell, and in an empty one.
func TestInNothing(t *testing.T) {
	a := opened(t, 12, named(made(100, 3, far)))
	for _, n := range []int{math.MinInt, -1, 6, 13, 5000, math.MaxInt} {
		for _, s := range []atlas.Spot{{Face: n}, {Level: n}, {Level: 12, Col: n}, {Level: 12, Row: n}, {n, n, n, n}} {
			if l := a.In(s); len(l) != 0 && !s.Valid() {
				t.Error(s, l)
			}
		}
	}
	if l := opened(t, 0, nil).In(atlas.Spot{}); len(l) != 0 {
		t.Error(l)
	}
}

// P4: an answer is the caller's own.
func TestInMemory(t *testing.T) {
	a := opened(t, 2, named([]api.Cell{to(1, 0, 0), to(2, 0, 0), to(3, 0, 0)}))
	l := a.In(atlas.Spot{})
	l[0], l[2] = "x", "y"
	_ = append(l[:1], "z")
	if got := a.In(atlas.Spot{}); !slices.Equal(got, []string{"s0", "s1", "s2"}) {
		t.Error(got)
	}
	needCone(t, a, to(1, 0, 0), 1, 1, []string{"s0", "s1", "s2"})
	l, _ = a.Cone(to(1, 0, 0), 1, 1)
	l[1] = "w"
	needCone(t, a, to(1, 0, 0), 1, 1, []string{"s0", "s1", "s2"})
}

// P2: two atlases know nothing of each other.
func TestApart(t *testing.T) {
	a, b := opened(t, 3, named(made(9, 1, 5))), opened(t, 3, nil)
	if b.Size() != 0 || len(b.In(atlas.Spot{})) != 0 {
		t.Error(b.Size())
	}
	for i := range 9 {
		needAdd(t, b, "s"+strconv.Itoa(i), to(1, 1, 1), nil)
	}
	if _, _, err := a.Nearest(to(1, 1, 1)); err != nil || b.Seen() != 0 || a.Seen() == 0 {
		t.Error("b was looked at", err)
	}
}

// P1: a nil atlas has no entries, and no room.
func TestNil(t *testing.T) {
	var a *atlas.Atlas
	if a.Size() != 0 || len(a.In(atlas.Spot{})) != 0 || a.Seen() != 0 {
		t.Error("it has entries")
	}
	needCone(t, a, to(1, 0, 0), -1, 1, nil)
	needNearest(t, a, to(1, 0, 0), "")
	if l, err := a.Cone(to(0, 0, 0), -1, 1); len(l) != 0 || err != api.ErrShape {
		t.Error(l, err)
	}
	if _, ok, err := a.Nearest(to(0, 0, 0)); ok || err != api.ErrShape {
		t.Error(ok, err)
	}
	needAdd(t, a, "", to(1, 0, 0), api.ErrName)
	needAdd(t, a, "x", to(0, 0, 0), api.ErrShape)
	needAdd(t, a, "x", to(1, 0, 0), api.ErrBound)
}
