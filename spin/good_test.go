package spin_test

import (
	"math"
	"math/big"
	"math/rand"
	"testing"

	"meridian/api"
	"meridian/spin"
)

// How good it is, is measured by numbers of so many bits.
const long = 300

func exact(x float64) *big.Float { return new(big.Float).SetPrec(long).SetFloat64(x) }

func product(a, b api.Vec) *big.Float {
	sum := new(big.Float).SetPrec(long)
	for _, p := range [][2]float64{{a.X, b.X}, {a.Y, b.Y}, {a.Z, b.Z}} {
		sum.Add(sum, new(big.Float).SetPrec(long).Mul(exact(p[0]), exact(p[1])))
	}
	return sum
}

func length(v api.Vec) *big.Float {
	return new(big.Float).SetPrec(long).Sqrt(product(v, v))
}

// within: whether two are within 2^-46 of each other, in parts of a third.
func within(a, b, of *big.Float) bool {
	far := new(big.Float).SetPrec(long).Sub(a, b)
	most := new(big.Float).SetPrec(long).Mul(exact(0x1p-46), of)
	return far.Abs(far).Cmp(most) <= 0
}

// spoken: a number of those that P44 speaks of.
func spoken(dice *rand.Rand) float64 {
	switch dice.Intn(8) {
	case 0:
		return 0
	case 1:
		return minusZero
	case 2:
		return 0x1p-300
	case 3:
		return -0x1p300
	case 4:
		x := math.Ldexp(1+dice.Float64(), dice.Intn(600)-300)
		return x * float64(1-2*dice.Intn(2))
	default:
		return dice.NormFloat64()
	}
}

func spokenVec(dice *rand.Rand) api.Vec {
	return api.Vec{X: spoken(dice), Y: spoken(dice), Z: spoken(dice)}
}

// P44: what Turn and its way back tell is good, of what Unit and About tell.
func TestHowGood(t *testing.T) {
	dice := rand.New(rand.NewSource(48))
	for n := range 6000 {
		q, ok := spin.Q{W: spoken(dice), X: spoken(dice), Y: spoken(dice), Z: spoken(dice)}.Unit()
		if n%2 == 0 {
			q, ok = spin.About(spokenVec(dice), int(dice.Uint64())>>dice.Intn(64))
		}
		if ok {
			needGoodTurn(t, q, spokenVec(dice))
			needGoodRows(t, q.Matrix())
		}
	}
}

func needGoodTurn(t *testing.T, q spin.Q, v api.Vec) {
	t.Helper()
	there := q.Turn(v)
	back := q.Back().Turn(there)
	size := length(v)
	if !within(length(there), size, size) {
		t.Errorf("%x.Turn(%x) = %x is of another length", q, v, there)
	}
	if !within(exact(back.X), exact(v.X), size) || !within(exact(back.Y), exact(v.Y), size) || !within(exact(back.Z), exact(v.Z), size) {
		t.Errorf("%x turns %x there and back to %x", q, v, back)
	}
}

func needGoodRows(t *testing.T, m spin.M) {
	t.Helper()
	one := exact(1)
	for i, row := range m {
		if !within(length(row), one, one) {
			t.Errorf("row %d of %x is not of length 1", i, m)
		}
		for j := range i {
			if !within(product(row, m[j]), exact(0), one) {
				t.Errorf("rows %d and %d of %x are not across", i, j, m)
			}
		}
	}
}
