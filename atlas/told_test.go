package atlas_test

import (
	"math"
	"math/big"
	"math/rand"
	"slices"
	"strconv"
	"strings"
	"testing"

	"meridian/api"
	"meridian/atlas"
)

const far = 1 << 20 // a direction's greatest coordinate, and the greatest den

func to(x, y, z int) api.Cell { return api.Cell{X: x, Y: y, Z: z} }

// made directions, by a rule that the values written out were reckoned by.
func made(n, seed, most int) []api.Cell {
	next := func() int {
		seed = (seed*1103515245 + 12345) % (1 << 31)
		return (seed>>8)%(2*most+1) - most
	}
	var l []api.Cell
	for len(l) < n {
		x, y := next(), next()
		if d := to(x, y, next()); d != to(0, 0, 0) {
			l = append(l, d)
		}
	}
	return l
}

func thrown(dice *rand.Rand, most int) api.Cell {
	return made(1, int(dice.Uint32()>>1), most)[0]
}

// noDirections: each coordinate wrong by itself, and none.
func noDirections() []api.Cell {
	l := []api.Cell{{}, to(far+1, far+1, far+1)}
	for _, n := range []int{far + 1, -far - 1, math.MaxInt, math.MinInt} {
		l = append(l, to(n, 5, 5), to(5, n, 5), to(5, 5, n), to(n, 0, 0), to(0, n, 0), to(0, 0, n))
	}
	return l
}

// noCosines: num and den.
func noCosines() [][2]int {
	return [][2]int{
		{0, 0}, {1, 0}, {0, -1}, {1, -1}, {-1, -1}, {0, math.MinInt}, {math.MinInt, math.MinInt},
		{0, far + 1}, {1, far + 1}, {far + 1, far + 1}, {0, math.MaxInt}, {math.MaxInt, math.MaxInt},
		{2, 1}, {-2, 1}, {far + 1, far}, {-far - 1, far}, {math.MaxInt, far}, {math.MinInt, far}, {math.MinInt, 1},
	}
}

// named entries: s0, s1, ..
func named(l []api.Cell) []atlas.Entry {
	var all []atlas.Entry
	for i, d := range l {
		all = append(all, atlas.Entry{Name: "s" + strconv.Itoa(i), At: d, Light: i})
	}
	return all
}

func opened(t *testing.T, level int, l []atlas.Entry) *atlas.Atlas {
	t.Helper()
	a, err := atlas.New(level)
	if err != nil {
		t.Fatal(err)
	}
	for _, e := range l {
		if err := a.Add(e); err != nil {
			t.Fatal(e, err)
		}
	}
	return a
}

// toldCell goes by the document: of each axis by itself, of each column by itself.
func toldCell(d api.Cell, level int) atlas.Spot {
	l := []int{d.X, d.Y, d.Z}
	axis := 0
	for i, n := range l {
		if max(n, -n) > max(l[axis], -l[axis]) {
			axis = i
		}
	}
	m := max(l[axis], -l[axis])
	s := atlas.Spot{Face: 2 * axis, Level: level}
	if l[axis] < 0 {
		s.Face++
	}
	others := slices.Delete(slices.Clone(l), axis, axis+1)
	place := func(n int) int {
		at := 0
		for step := 1 << 12; step > 0; step /= 2 {
			if p := at + step; p < 1<<level && p*2*m <= (n+m)<<level {
				at = p
			}
		}
		return at
	}
	s.Col, s.Row = place(others[0]), place(others[1])
	return s
}

// Of a cosine its square with its sign, in numbers of any size.

func signedSquare(num, square *big.Int) *big.Rat {
	return new(big.Rat).SetFrac(new(big.Int).Mul(num, new(big.Int).Abs(num)), square)
}

func toldDot(d, e api.Cell) *big.Int {
	sum := new(big.Int)
	for _, p := range [][2]int{{d.X, e.X}, {d.Y, e.Y}, {d.Z, e.Z}} {
		sum.Add(sum, new(big.Int).Mul(big.NewInt(int64(p[0])), big.NewInt(int64(p[1]))))
	}
	return sum
}

func toldCosine(d, e api.Cell) *big.Rat {
	return signedSquare(toldDot(d, e), new(big.Int).Mul(toldDot(d, d), toldDot(e, e)))
}

func fraction(num, den int) *big.Rat {
	n := big.NewInt(int64(den))
	return signedSquare(big.NewInt(int64(num)), n.Mul(n, n))
}

func toldCone(l []atlas.Entry, d api.Cell, num, den int) []string {
	var names []string
	for _, e := range l {
		if toldCosine(d, e.At).Cmp(fraction(num, den)) >= 0 {
			names = append(names, e.Name)
		}
	}
	slices.Sort(names)
	return names
}

// toldNearest of some entries.
func toldNearest(l []atlas.Entry, d api.Cell) atlas.Entry {
	return slices.MaxFunc(l, func(a, b atlas.Entry) int {
		if c := toldCosine(d, a.At).Cmp(toldCosine(d, b.At)); c != 0 {
			return c
		}
		return strings.Compare(b.Name, a.Name)
	})
}

func toldCross(a, b []atlas.Entry, num, den int) [][2]string {
	var pairs [][2]string
	for _, x := range a {
		if len(b) == 0 {
			break
		}
		y := toldNearest(b, x.At)
		if toldNearest(a, y.At).Name == x.Name && toldCosine(x.At, y.At).Cmp(fraction(num, den)) >= 0 {
			pairs = append(pairs, [2]string{x.Name, y.Name})
		}
	}
	slices.SortFunc(pairs, func(p, q [2]string) int { return strings.Compare(p[0], q[0]) })
	return pairs
}

func needCone(t *testing.T, a *atlas.Atlas, d api.Cell, num, den int, want []string) {
	t.Helper()
	if got, err := a.Cone(d, num, den); err != nil || !slices.Equal(got, want) {
		t.Fatalf("Cone(%v, %d, %d) = %q, %v, want %q", d, num, den, got, err, want)
	}
}

func needNearest(t *testing.T, a *atlas.Atlas, d api.Cell, want string) {
	t.Helper()
	if got, ok, err := a.Nearest(d); err != nil || ok != (want != "") || got != want {
		t.Fatalf("Nearest(%v) = %q, %v, %v, want %q", d, got, ok, err, want)
	}
}

func needCross(t *testing.T, a, b *atlas.Atlas, num, den int, want [][2]string) {
	t.Helper()
	if got, err := atlas.Cross(a, b, num, den); err != nil || !slices.Equal(got, want) {
		t.Fatalf("Cross at %d/%d = %q, %v, want %q", num, den, got, err, want)
	}
}

// scene of one of many kinds: directions on cells' edges and corners, far out, close together,
// on a line, on a circle.
func scene(dice *rand.Rand) []api.Cell {
	var l []api.Cell
	kind, middle := dice.Intn(6), thrown(dice, far-50)
	for range dice.Intn(60) {
		d := thrown(dice, []int{1, 2, 5, 64, far}[dice.Intn(5)])
		switch kind {
		case 1:
			d = thrown(dice, 2)
		case 2:
			d = to(middle.X+d.X%50, middle.Y+d.Y%50, middle.Z+d.Z%50)
		case 3:
			d = to(1+dice.Intn(far), 0, 0)
		case 4:
			d = to(0, d.Y, d.Z)
		}
		if d != to(0, 0, 0) {
			l = append(l, d)
		}
	}
	return l
}

// aim at something: one of them, the opposite of it, or anything.
func aim(dice *rand.Rand, l []atlas.Entry) api.Cell {
	if len(l) == 0 || dice.Intn(3) == 0 {
		return thrown(dice, []int{1, 2, 5, far}[dice.Intn(4)])
	}
	d := l[dice.Intn(len(l))].At
	if dice.Intn(3) == 0 {
		return to(-d.X, -d.Y, -d.Z)
	}
	return d
}

// width of a cone: fractions that small directions have as their cosines, and others.
func width(dice *rand.Rand) (num, den int) {
	known := [][2]int{{1, 1}, {-1, 1}, {0, 1}, {1, 2}, {-1, 2}, {3, 5}, {-4, 5}, {1, 3}, {2, 3}, {-2, 3}, {99, 100}, {far - 1, far}, {1 - far, far}}
	if dice.Intn(2) == 0 {
		w := known[dice.Intn(len(known))]
		return w[0], w[1]
	}
	den = 1 + dice.Intn(far)
	return dice.Intn(2*den+1) - den, den
}
