package spin_test

import (
	"math"
	"math/rand"
	"testing"

	"meridian/bits"
	"meridian/spin"
)

// written: two quaternions of which bits are written out in the tests.
var (
	written      = spin.Q{W: 0.1, X: -0.7, Y: 0.3, Z: 1.1}
	writtenOther = spin.Q{W: -0.9, X: 0.2, Y: 1.3, Z: -0.6}
)

// P40: products of the four, each with each.
func TestTimesOfOnes(t *testing.T) {
	one, i, j, k := spin.Q{W: 1}, spin.Q{X: 1}, spin.Q{Y: 1}, spin.Q{Z: 1}
	less := func(q spin.Q) spin.Q { return spin.Q{W: -q.W, X: -q.X, Y: -q.Y, Z: -q.Z} }
	all := [4]spin.Q{one, i, j, k}
	for a, row := range [4][4]spin.Q{
		{one, i, j, k},
		{i, less(one), k, less(j)},
		{j, less(k), less(one), i},
		{k, j, less(i), less(one)},
	} {
		for b, want := range row {
			if got := all[a].Times(all[b]); got != want {
				t.Errorf("%v.Times(%v) = %v, want %v", all[a], all[b], got, want)
			}
		}
	}
}

// P40: Times to the bit, of ordinary and of odd numbers.
func TestTimes(t *testing.T) {
	needQBits(t, "Times", "3fd47ae147ae147b bfeeb851eb851eba bfd5c28f5c28f5c3 c00028f5c28f5c29", written.Times(writtenOther))
	needQBits(t, "Times", "3fd47ae147ae147b 4002147ae147ae15 3faeb851eb851eb0 bfb47ae147ae148c", writtenOther.Times(written))
	dice := rand.New(rand.NewSource(40))
	for n := range 20000 {
		a, b := quaternion(dice, n%2 == 0), quaternion(dice, n%2 == 0)
		if got, want := a.Times(b), toldTimes(a, b); !sameQ(got, want) {
			t.Fatalf("%x.Times(%x) = %x, want %x", a, b, got, want)
		}
	}
}

// P40: zeros have signs in Times, as its formulas give them.
func TestTimesZeros(t *testing.T) {
	zeros := []float64{0, minusZero}
	for n := range 256 {
		at := func(bit int) float64 { return zeros[n>>bit&1] }
		a := spin.Q{W: at(0), X: at(1), Y: at(2), Z: at(3)}
		b := spin.Q{W: at(4), X: at(5), Y: at(6), Z: at(7)}
		if got, want := a.Times(b), toldTimes(a, b); !sameQ(got, want) {
			t.Errorf("%v.Times(%v) = %v, want %v", a, b, got, want)
		}
	}
}

// P40: Back turns the signs of X, Y, Z, those of zeros and infinities as well.
func TestBack(t *testing.T) {
	up, down := math.Inf(1), math.Inf(-1)
	for _, c := range [][2]spin.Q{
		{{W: 1, X: 2, Y: 3, Z: 4}, {W: 1, X: -2, Y: -3, Z: -4}},
		{{W: -1, X: -2, Y: -3, Z: -4}, {W: -1, X: 2, Y: 3, Z: 4}},
		{{}, {X: minusZero, Y: minusZero, Z: minusZero}},
		{{W: minusZero, X: minusZero, Y: minusZero, Z: minusZero}, {W: minusZero}},
		{{W: up, X: up, Y: down, Z: math.NaN()}, {W: up, X: down, Y: up, Z: math.NaN()}},
	} {
		if got := c[0].Back(); !sameQ(got, c[1]) {
			t.Errorf("%v.Back() = %v, want %v", c[0], got, c[1])
		}
	}
}

// P40: Size to the bit, of ordinary and of odd numbers.
func TestSize(t *testing.T) {
	needBits(t, "Size", "3ff5775c544ff263", written.Size())
	dice := rand.New(rand.NewSource(41))
	for n := range 20000 {
		a := quaternion(dice, n%2 == 0)
		if got, want := a.Size(), toldSize(a); !bits.Same(got, want) {
			t.Fatalf("%x.Size() = %x, want %x", a, got, want)
		}
	}
	for _, c := range []struct {
		q    spin.Q
		want float64
	}{
		{spin.Q{}, 0},
		{spin.Q{W: minusZero, X: minusZero, Y: minusZero, Z: minusZero}, 0},
		{spin.Q{W: -1, X: 1, Y: -1, Z: 1}, 2},
		{spin.Q{W: 1, X: 4, Y: 4, Z: 4}, 7},
		{spin.Q{X: 0x1p-538}, 0},
		{spin.Q{Z: 0x1p-537}, 0x1p-537},
		{spin.Q{Y: -0x1p511}, 0x1p511},
		{spin.Q{W: 0x1p512}, math.Inf(1)},
		{spin.Q{W: math.Inf(-1)}, math.Inf(1)},
	} {
		if got := c.q.Size(); !bits.Same(got, c.want) {
			t.Errorf("%x.Size() = %x, want %x", c.q, got, c.want)
		}
	}
}

// P40: Unit to the bit; where there is none, it is Q{W: 1}.
func TestUnit(t *testing.T) {
	u, _ := written.Unit()
	needQBits(t, "Unit", "3fb314c3d92a9e91 bfe0b22b5e054abe 3fcc9f25c5bfedd9 3fea3c8d4a9a9a08", u)
	dice := rand.New(rand.NewSource(42))
	for n := range 20000 {
		a := quaternion(dice, n%2 == 0)
		got, ok := a.Unit()
		if want, wantOK := toldUnit(a); ok != wantOK || !sameQ(got, want) {
			t.Fatalf("%x.Unit() = %x, %v, want %x, %v", a, got, ok, want, wantOK)
		}
	}
}

// P40: the first and the last sizes that have a Unit.
func TestUnitEdges(t *testing.T) {
	for _, c := range []struct{ from, want spin.Q }{
		{spin.Q{W: -3}, spin.Q{W: -1}},
		{spin.Q{W: minusZero, X: minusZero, Y: 3, Z: -4}, spin.Q{W: minusZero, X: minusZero, Y: 0.6, Z: -0.8}},
		{spin.Q{X: 0x1p-537}, spin.Q{X: 1}},
		{spin.Q{X: 0x1.8p-538}, spin.Q{X: 0.75}}, // its square is rounded to the least number
		{spin.Q{Y: -0x1p511}, spin.Q{Y: -1}},
		{spin.Q{W: 0x1p300, Z: 0x1p-300}, spin.Q{W: 1, Z: 0x1p-600}},
		{spin.Q{W: 0x1p-1074, Z: 1}, spin.Q{W: 0x1p-1074, Z: 1}},
	} {
		if got, ok := c.from.Unit(); !ok || !sameQ(got, c.want) {
			t.Errorf("%x.Unit() = %x, %v, want %x", c.from, got, ok, c.want)
		}
	}
	no := []spin.Q{{}, {W: minusZero, X: minusZero, Y: minusZero, Z: minusZero}, {W: math.Inf(1), Z: math.NaN()}, {W: 0x1p511, X: 0x1p511, Y: 0x1p511, Z: 0x1p511}}
	for _, x := range []float64{0x1p-538, 0x1p-1074, 0x1p512, -math.MaxFloat64, math.Inf(1), math.Inf(-1), math.NaN()} {
		no = append(no, spin.Q{W: x}, spin.Q{X: x}, spin.Q{Y: x}, spin.Q{Z: x})
	}
	for _, q := range no {
		if got, ok := q.Unit(); ok || !sameQ(got, spin.Q{W: 1}) {
			t.Errorf("%x.Unit() = %x, %v, want none", q, got, ok)
		}
	}
}
