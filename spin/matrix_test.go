package spin_test

import (
	"math"
	"math/rand"
	"testing"

	"meridian/api"
	"meridian/spin"
)

// P42: matrices, their bits and their numbers written out.
func TestKnownMatrix(t *testing.T) {
	m := written.Matrix()
	needBits(t, "row 0", "bff999999999999c bfe47ae147ae147b bff7ae147ae147ae", m[0].X, m[0].Y, m[0].Z)
	needBits(t, "row 1", "bfc9999999999998 c003333333333334 3fe999999999999a", m[1].X, m[1].Y, m[1].Z)
	needBits(t, "row 2", "bff999999999999a 3fe0a3d70a3d70a4 bfc47ae147ae1478", m[2].X, m[2].Y, m[2].Z)
	for _, c := range []struct {
		q    spin.Q
		want spin.M
	}{
		{spin.Q{}, spin.M{{X: 1}, {Y: 1}, {Z: 1}}},
		{spin.Q{W: 1}, spin.M{{X: 1}, {Y: 1}, {Z: 1}}},
		{spin.Q{X: 1}, spin.M{{X: 1}, {Y: -1}, {Z: -1}}},
		{spin.Q{Y: 1}, spin.M{{X: -1}, {Y: 1}, {Z: -1}}},
		{spin.Q{Z: 1}, spin.M{{X: -1}, {Y: -1}, {Z: 1}}},
		{spin.Q{W: 2, X: 3, Y: 5, Z: 7}, spin.M{{X: -147, Y: 2, Z: 62}, {X: 58, Y: -115, Z: 58}, {X: 22, Y: 82, Z: -67}}},
	} {
		if got := c.q.Matrix(); got != c.want {
			t.Errorf("%v.Matrix() = %v, want %v", c.q, got, c.want)
		}
	}
}

// P42: Matrix to the bit, of ordinary and of odd numbers.
func TestMatrix(t *testing.T) {
	dice := rand.New(rand.NewSource(44))
	for n := range 20000 {
		q := quaternion(dice, n%2 == 0)
		if got, want := q.Matrix(), toldMatrix(q); !sameM(got, want) {
			t.Fatalf("%x.Matrix() = %x, want %x", q, got, want)
		}
	}
}

// P42: zeros have signs in Matrix and in Apply, as the formulas give them.
func TestMatrixZeros(t *testing.T) {
	few := []float64{0, minusZero, 1, -1}
	at := func(n, place int) float64 { return few[n>>(2*place)&3] }
	for n := range 256 {
		q := spin.Q{W: at(n, 0), X: at(n, 1), Y: at(n, 2), Z: at(n, 3)}
		if got, want := q.Matrix(), toldMatrix(q); !sameM(got, want) {
			t.Errorf("%v.Matrix() = %v, want %v", q, got, want)
		}
	}
	for n := range 4096 {
		row, v := api.Vec{X: at(n, 0), Y: at(n, 1), Z: at(n, 2)}, api.Vec{X: at(n, 3), Y: at(n, 4), Z: at(n, 5)}
		m := spin.M{row, v, row}
		if got, want := m.Apply(v), toldApply(m, v); !sameVec(got, want) {
			t.Errorf("%v.Apply(%v) = %v, want %v", m, v, got, want)
		}
	}
}

// P42: Apply and Turn to the bit, of ordinary and of odd numbers.
func TestApplyAndTurn(t *testing.T) {
	dice := rand.New(rand.NewSource(45))
	for n := range 20000 {
		ordinary := n%2 == 0
		m, v := spin.M{vector(dice, ordinary), vector(dice, ordinary), vector(dice, ordinary)}, vector(dice, ordinary)
		if got, want := m.Apply(v), toldApply(m, v); !sameVec(got, want) {
			t.Fatalf("%x.Apply(%x) = %x, want %x", m, v, got, want)
		}
		q := quaternion(dice, ordinary)
		if got, want := q.Turn(v), toldApply(toldMatrix(q), v); !sameVec(got, want) {
			t.Fatalf("%x.Turn(%x) = %x, want %x", q, v, got, want)
		}
	}
	m := spin.M{{X: 1, Y: 2, Z: 3}, {X: 4, Y: 5, Z: 6}, {X: 7, Y: 8, Z: 9}}
	if got := m.Apply(api.Vec{X: 1, Y: 10, Z: 100}); got != (api.Vec{X: 321, Y: 654, Z: 987}) {
		t.Errorf("%v.Apply = %v", m, got)
	}
	q, _ := written.Unit()
	v := q.Turn(api.Vec{X: 0.1, Y: 0.2, Z: 0.3})
	needBits(t, "Turn", "bfd72ea61d950c84 bfac71c71c71c720 3fb3579be02468b1", v.X, v.Y, v.Z)
}

// P42: Turned: rows become columns, and are not changed.
func TestTurned(t *testing.T) {
	m := spin.M{{X: 1, Y: minusZero, Z: math.Inf(1)}, {X: 4, Y: math.NaN(), Z: 6}, {X: 0, Y: 8, Z: math.Inf(-1)}}
	before := m
	want := spin.M{{X: 1, Y: 4, Z: 0}, {X: minusZero, Y: math.NaN(), Z: 8}, {X: math.Inf(1), Y: 6, Z: math.Inf(-1)}}
	if got := m.Turned(); !sameM(got, want) {
		t.Errorf("%v.Turned() = %v, want %v", m, got, want)
	}
	if got := m.Turned().Turned(); !sameM(got, before) || !sameM(m, before) {
		t.Errorf("%v.Turned().Turned() = %v", m, got)
	}
	q, _ := written.Unit()
	if got, want := q.Back().Matrix(), q.Matrix().Turned(); !sameM(got, want) {
		t.Errorf("the matrix of Back is %x, want %x", got, want)
	}
}
