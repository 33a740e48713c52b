package wide_test

import (
	"math"
	"math/big"
	"math/rand"
	"testing"

	"meridian/wide"
)

// A number both ways: as it is here, and of any size.
type both struct {
	n     wide.Number
	exact *big.Int
}

func product(a, b int) both {
	return both{wide.Product(a, b), new(big.Int).Mul(big.NewInt(int64(a)), big.NewInt(int64(b)))}
}

func (a both) times(n int) both {
	return both{a.n.Times(n), new(big.Int).Mul(a.exact, big.NewInt(int64(n)))}
}

func (a both) plus(b both) both {
	return both{a.n.Plus(b.n), new(big.Int).Add(a.exact, b.exact)}
}

func (a both) apart(b both) both {
	return both{wide.Apart(a.n, b.n), new(big.Int).Abs(new(big.Int).Sub(a.exact, b.exact))}
}

func thrown(dice *rand.Rand) int { return int(dice.Uint64() >> (1 + dice.Intn(63))) }

func needOrder(t *testing.T, a, b both) {
	t.Helper()
	if got, want := a.n.Compare(b.n), a.exact.Cmp(b.exact); got != want {
		t.Fatalf("%v and %v: %d, want %d", a.exact, b.exact, got, want)
	}
}

// number written another way: 2^62 times high, and low.
func number(exact *big.Int) both {
	high, low := new(big.Int).DivMod(exact, big.NewInt(1<<62), new(big.Int))
	if !high.IsInt64() {
		high, low = new(big.Int).DivMod(exact, big.NewInt(math.MaxInt), new(big.Int))
		return product(int(high.Int64()), math.MaxInt).plus(product(int(low.Int64()), 1))
	}
	return product(int(high.Int64()), 1<<62).plus(product(int(low.Int64()), 1))
}

// All of it against numbers of any size.
func TestNumbers(t *testing.T) {
	dice := rand.New(rand.NewSource(15))
	for range 20000 {
		a, b := product(thrown(dice), thrown(dice)), product(thrown(dice), thrown(dice))
		needOrder(t, a, b)
		for _, c := range []both{a.plus(b), a.apart(b), b.apart(a), a.plus(b).apart(b)} {
			if c.exact.BitLen() <= 125 {
				needOrder(t, c, number(c.exact))
				needOrder(t, c, number(new(big.Int).Add(c.exact, big.NewInt(1))))
			}
			needOrder(t, c, a)
		}
		n := thrown(dice)
		if c := a.times(n); c.exact.BitLen() <= 125 {
			needOrder(t, c, number(c.exact))
			needOrder(t, number(new(big.Int).Add(c.exact, big.NewInt(1))), c)
			needOrder(t, c, b)
		}
	}
}

// The ends.
func TestEnds(t *testing.T) {
	zero, most := wide.Product(0, math.MaxInt), wide.Product(math.MaxInt, math.MaxInt)
	one := wide.Product(1, 1)
	if zero != wide.Product(5, 0) || zero.Compare(most) != -1 || most.Compare(zero) != 1 || most.Compare(most) != 0 {
		t.Error(zero, most)
	}
	if most.Times(1) != most || most.Times(0) != zero || zero.Times(math.MaxInt) != zero || most.Times(2) != most.Plus(most) {
		t.Error("times")
	}
	// (2^63 - 1)^2 = 2^126 - 2^64 + 1: the low word carries, and borrows.
	near := wide.Product(math.MaxInt, 2).Plus(one) // 2^64 - 1
	if up := near.Plus(one); up != wide.Product(1<<62, 4) || wide.Apart(up, one) != near || wide.Apart(one, up) != near {
		t.Error(near)
	}
	if most.Plus(near) != wide.Product(1<<62, 1<<62).Times(4) || wide.Apart(most, most) != zero {
		t.Error(most)
	}
}
