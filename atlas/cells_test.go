package atlas_test

import (
	"math"
	"math/rand"
	"testing"

	"meridian/api"
	"meridian/atlas"
)

func needCell(t *testing.T, d api.Cell, level int, want atlas.Spot) {
	t.Helper()
	if s, err := atlas.CellOf(d, level); err != nil || s != want {
		t.Fatalf("CellOf(%v, %d) = %v, %v, want %v", d, level, s, err, want)
	}
}

// P150: cells of the levels 0, 1, 5, 12, written out: the face, then column and row of the
// last three.
func TestKnownCells(t *testing.T) {
	for _, k := range []struct{ seed, most, face, col1, row1, col5, row5, col12, row12 int }{
		{1, 9, 2, 1, 0, 19, 9, 2457, 1228},
		{2, 9, 3, 1, 1, 30, 17, 3868, 2275},
		{3, 100, 2, 0, 1, 5, 23, 742, 2997},
		{4, 100, 4, 1, 0, 27, 1, 3491, 201},
		{5, far, 3, 0, 0, 8, 9, 1072, 1154},
		{6, far, 3, 0, 0, 9, 8, 1159, 1045},
		{7, far, 3, 0, 0, 10, 6, 1292, 876},
		{8, 2, 0, 1, 1, 16, 31, 2048, 4095},
		{9, 2, 0, 1, 0, 16, 8, 2048, 1024},
		{10, 3, 4, 0, 1, 5, 21, 682, 2730},
		{11, far, 5, 1, 1, 31, 19, 4062, 2532},
		{12, 50, 4, 1, 1, 19, 27, 2486, 3462},
	} {
		d := made(1, k.seed, k.most)[0]
		needCell(t, d, 0, atlas.Spot{Face: k.face})
		needCell(t, d, 1, atlas.Spot{Face: k.face, Level: 1, Col: k.col1, Row: k.row1})
		needCell(t, d, 5, atlas.Spot{Face: k.face, Level: 5, Col: k.col5, Row: k.row5})
		needCell(t, d, 12, atlas.Spot{Face: k.face, Level: 12, Col: k.col12, Row: k.row12})
	}
}

// P150: which face it is, where coordinates are as great.
func TestFaces(t *testing.T) {
	for d, face := range map[api.Cell]int{
		to(7, 0, 0): 0, to(-7, 0, 0): 1, to(0, 7, 0): 2, to(0, -7, 0): 3, to(0, 0, 7): 4, to(0, 0, -7): 5,
		to(7, 7, 7): 0, to(7, -7, -7): 0, to(-7, 7, 7): 1, to(-7, -7, 3): 1, to(7, 3, -7): 0, to(-7, 3, 7): 1,
		to(6, 7, 7): 2, to(-6, 7, -7): 2, to(6, -7, 7): 3, to(0, -7, -7): 3, to(6, 6, 7): 4, to(-6, 6, -7): 5,
		to(far, far, -far): 0, to(-far, far, -far): 1, to(1-far, -far, far): 3, to(1-far, far-1, -far): 5,
	} {
		needCell(t, d, 0, atlas.Spot{Face: face})
	}
}

// P150: edges between columns are of the higher one, the last edge is of the last one.
func TestEdges(t *testing.T) {
	for _, c := range [][3]int{{-8, 0, 0}, {-5, 0, 1}, {-4, 1, 2}, {-1, 1, 3}, {0, 2, 4}, {1, 2, 4}, {3, 2, 5}, {4, 3, 6}, {7, 3, 7}, {8, 3, 7}} {
		n, two, three := c[0], c[1], c[2]
		for face, d := range []api.Cell{to(8, n, 1), to(-8, n, 1), to(n, 8, 1), to(n, -8, 1), to(n, 1, 8), to(n, 1, -8)} {
			if (n == 8 || n == -8) && face > 1 {
				continue // there X's face comes first
			}
			needCell(t, d, 2, atlas.Spot{Face: face, Level: 2, Col: two, Row: 2})
			needCell(t, d, 3, atlas.Spot{Face: face, Level: 3, Col: three, Row: 4})
		}
		for face, d := range []api.Cell{to(8, 1, n), to(-8, 1, n), to(1, 8, n), to(1, -8, n)} {
			needCell(t, d, 2, atlas.Spot{Face: face, Level: 2, Col: 2, Row: two})
			needCell(t, d, 3, atlas.Spot{Face: face, Level: 3, Col: 4, Row: three})
		}
	}
	needCell(t, to(far, far, -far), 12, atlas.Spot{Level: 12, Col: 4095})
	needCell(t, to(far, far-1, 1-far), 12, atlas.Spot{Level: 12, Col: 4095})
	needCell(t, to(far, far-512, 512-far), 12, atlas.Spot{Level: 12, Col: 4095, Row: 1})
	needCell(t, to(far, -1, 0), 12, atlas.Spot{Level: 12, Col: 2047, Row: 2048})
}

// P150: all kinds of directions, all levels; what lies in a cell lies in the one above.
func TestCells(t *testing.T) {
	dice := rand.New(rand.NewSource(150))
	for range 5000 {
		d := thrown(dice, []int{1, 2, 5, 100, far}[dice.Intn(5)])
		for level := range api.MaxLevel + 1 {
			s := toldCell(d, level)
			needCell(t, d, level, s)
			if !s.Valid() {
				t.Fatal(s)
			}
			up, ok := s.Up()
			if level == 0 && (ok || up != (atlas.Spot{})) || level > 0 && (!ok || up != toldCell(d, level-1)) {
				t.Fatal(d, s, up, ok)
			}
		}
	}
}

// P150: the cells of a level are as many as there should be, and each lies in one.
func TestUp(t *testing.T) {
	for level := 1; level <= 6; level++ {
		parts := map[atlas.Spot]int{}
		for i := range 6 << (2 * level) {
			s := atlas.Spot{Face: i >> (2 * level), Level: level, Col: i >> level % (1 << level), Row: i % (1 << level)}
			up, ok := s.Up()
			if !s.Valid() || !ok || !up.Valid() || up.Level != level-1 || up.Face != s.Face {
				t.Fatal(s, up, ok)
			}
			parts[up]++
		}
		if len(parts) != 6<<(2*level-2) {
			t.Error(level, len(parts))
		}
		for up, n := range parts {
			if n != 4 {
				t.Error(up, n)
			}
		}
	}
}

// P150: cells, and what is none.
func TestValid(t *testing.T) {
	for _, s := range []atlas.Spot{{}, {Face: 5}, {Level: 12}, {Face: 5, Level: 12, Col: 4095, Row: 4095}, {Level: 1, Col: 1}, {Level: 3, Row: 7}} {
		if up, ok := s.Up(); !s.Valid() || ok != (s.Level > 0) || ok && up.Level != s.Level-1 {
			t.Error(s, up, ok)
		}
	}
	wrong := []atlas.Spot{
		{Level: 0, Col: 1}, {Level: 0, Row: 1}, {Level: 1, Col: 2}, {Level: 1, Row: 2}, {Level: 12, Col: 4096}, {Level: 12, Row: 4096},
	}
	for _, n := range []int{math.MinInt, -64, -1, 13, 63, 64, 65, math.MaxInt} {
		wrong = append(wrong, atlas.Spot{Face: n, Level: 2}, atlas.Spot{Level: n}, atlas.Spot{Level: 2, Col: n}, atlas.Spot{Level: 2, Row: n})
		wrong = append(wrong, atlas.Spot{n, n, n, n}, atlas.Spot{Face: 6, Level: n})
	}
	for _, s := range append(wrong, atlas.Spot{Face: 6}, atlas.Spot{Face: 7, Level: 12}) {
		if up, ok := s.Up(); s.Valid() || ok || up != (atlas.Spot{}) {
			t.Error(s, up, ok)
		}
	}
}

// P150: no direction is told ahead of no level.
func TestCellWrong(t *testing.T) {
	need := func(d api.Cell, level int, want error) {
		t.Helper()
		if s, err := atlas.CellOf(d, level); err != want || s != (atlas.Spot{}) {
			t.Error(d, level, s, err)
		}
	}
	noLevels := []int{math.MinInt, -1, 13, 64, math.MaxInt}
	for _, d := range noDirections() {
		for _, level := range append(noLevels, 0, 5, 12) {
			need(d, level, api.ErrShape)
		}
	}
	for _, level := range noLevels {
		need(to(1, 2, 3), level, api.ErrBound)
		need(to(far, -far, far), level, api.ErrBound)
	}
}
