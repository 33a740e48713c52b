package move_test

import (
	"math"
	"math/big"
	"math/rand"
	"testing"

	"meridian/api"
	"meridian/move"
)

// Coordinates beyond a body's limits, of its place and of its speed.
var noPlaces = []int{api.MaxPlace + 1, -api.MaxPlace - 1, 3 * api.MaxPlace, math.MaxInt, math.MinInt}

// The document's words in numbers of any size, each kick from a copy of where the
// bodies are.

func toldPull(d api.Cell) api.Cell {
	r2 := new(big.Int)
	for _, n := range []int{d.X, d.Y, d.Z} {
		if n < -2097152 || n > 2097152 {
			return api.Cell{}
		}
		r2.Add(r2, new(big.Int).Mul(big.NewInt(int64(n)), big.NewInt(int64(n))))
	}
	r := new(big.Int).Sqrt(r2)
	under := new(big.Int).Mul(new(big.Int).Add(r2, big.NewInt(64)), new(big.Int).Add(r, big.NewInt(8)))
	pull := func(n int) int {
		over := new(big.Int).Mul(big.NewInt(int64(n)), big.NewInt(1073741824))
		return int(over.Quo(over, under).Int64())
	}
	return api.Cell{X: pull(d.X), Y: pull(d.Y), Z: pull(d.Z)}
}

func toldKick(l []move.Body, way int) []move.Body {
	k := append([]move.Body{}, l...)
	for i, a := range l {
		for j, b := range l {
			if i == j {
				continue
			}
			p := toldPull(api.Cell{X: b.At.X - a.At.X, Y: b.At.Y - a.At.Y, Z: b.At.Z - a.At.Z})
			k[i].Speed.X += way * b.Mass * p.X
			k[i].Speed.Y += way * b.Mass * p.Y
			k[i].Speed.Z += way * b.Mass * p.Z
		}
	}
	return k
}

func toldStep(l []move.Body, way int) []move.Body {
	l = toldKick(l, way)
	for i := range l {
		l[i].At.X += way * l[i].Speed.X
		l[i].At.Y += way * l[i].Speed.Y
		l[i].At.Z += way * l[i].Speed.Z
	}
	return toldKick(l, way)
}

func toldInLimits(l []move.Body) bool {
	for _, b := range l {
		for _, n := range []int{b.At.X, b.At.Y, b.At.Z, b.Speed.X, b.Speed.Y, b.Speed.Z} {
			if n < -1048576 || n > 1048576 {
				return false
			}
		}
	}
	return true
}

// toldStates: what there is from step 0 on, up to the last step or to the first that
// leaves the limits, which is told by false.
func toldStates(l []move.Body, steps int) ([][]move.Body, bool) {
	way := 1
	if steps < 0 {
		way, steps = -1, -steps
	}
	states := [][]move.Body{l}
	for range steps {
		l = toldStep(l, way)
		if !toldInLimits(l) {
			return states, false
		}
		states = append(states, l)
	}
	return states, true
}

// sized: a number of any size up to that one.
func sized(dice *rand.Rand, most int) int {
	m := most >> dice.Intn(12)
	return dice.Intn(2*m+1) - m
}

func cell(dice *rand.Rand, most int) api.Cell {
	return api.Cell{X: sized(dice, most), Y: sized(dice, most), Z: sized(dice, most)}
}

// bodies that stay in their limits for a while: those that come near each other are
// thrown far.
func bodies(dice *rand.Rand) []move.Body {
	l := make([]move.Body, dice.Intn(7))
	place, speed, mass := 1000<<dice.Intn(8), 1<<dice.Intn(14), 1<<dice.Intn(8)
	for i := range l {
		l[i] = move.Body{At: cell(dice, place), Speed: cell(dice, speed), Mass: dice.Intn(mass)}
	}
	return l
}

// three bodies, of which one is heavy.
func three() []move.Body {
	return []move.Body{
		{Mass: 40},
		{At: api.Cell{X: 9000}, Speed: api.Cell{Y: 3000}, Mass: 3},
		{At: api.Cell{Y: -20000, Z: 500}, Speed: api.Cell{X: 1700}, Mass: 1},
	}
}

// five bodies, of which one weighs nothing.
func five() []move.Body {
	return []move.Body{
		{At: api.Cell{X: 4000, Y: -3000, Z: 200}, Speed: api.Cell{X: -900, Y: -1000, Z: 40}, Mass: 30},
		{At: api.Cell{X: -5000, Y: 1000, Z: -700}, Speed: api.Cell{X: 300, Y: 1500, Z: -20}, Mass: 20},
		{At: api.Cell{X: 15000, Y: 16000, Z: -9000}, Speed: api.Cell{X: -100, Y: 90, Z: 80}, Mass: 9},
		{At: api.Cell{X: -21000, Y: 4000, Z: 12345}, Speed: api.Cell{X: 77, Y: -77, Z: 7}},
		{At: api.Cell{X: 300, Y: -27000, Z: -1}, Speed: api.Cell{X: 1000, Z: -3}, Mass: 14},
	}
}

func same(a, b []move.Body) bool {
	if len(a) != len(b) {
		return false
	}
	for i := range a {
		if a[i] != b[i] {
			return false
		}
	}
	return true
}

// wrongBodies and the error that they are told for: the first one named, where several
// things are wrong, whichever body it is of.
func wrongBodies() []struct {
	l    []move.Body
	want error
} {
	type wrong = struct {
		l    []move.Body
		want error
	}
	l := []wrong{{make([]move.Body, api.MaxBodies+1), api.ErrBound}, {make([]move.Body, 5000), api.ErrBound}}
	heavy := make([]move.Body, api.MaxBodies+1)
	heavy[0] = move.Body{Mass: -1, At: api.Cell{X: math.MinInt}}
	l = append(l, wrong{heavy, api.ErrBound})
	for _, m := range []int{-1, api.MaxMass + 1, math.MaxInt, math.MinInt} {
		l = append(l,
			wrong{[]move.Body{{Mass: m}}, api.ErrShape},
			wrong{[]move.Body{{}, {Mass: 1}, {Mass: m}}, api.ErrShape},
			wrong{[]move.Body{{At: api.Cell{X: math.MaxInt}}, {Speed: api.Cell{Y: math.MinInt}}, {Mass: m}}, api.ErrShape})
	}
	for _, n := range noPlaces {
		for _, c := range []api.Cell{{X: n}, {Y: n}, {Z: n}, {X: n, Y: -n, Z: 1}} {
			l = append(l, wrong{[]move.Body{{At: c}}, api.ErrLimit}, wrong{[]move.Body{{Speed: c}}, api.ErrLimit})
			l = append(l, wrong{[]move.Body{{Mass: 1}, {}, {At: c, Mass: api.MaxMass}}, api.ErrLimit}, wrong{[]move.Body{{}, {Speed: c}}, api.ErrLimit})
		}
	}
	return l
}

func needBodies(t *testing.T, what string, got []move.Body, err error, want []move.Body) {
	t.Helper()
	if err != nil || !same(got, want) {
		t.Errorf("%s = %v, %v, want %v", what, got, err, want)
	}
}
