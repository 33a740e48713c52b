package spin_test

import (
	"math"
	"math/rand"
	"slices"
	"testing"

	"meridian/api"
	"meridian/spin"
)

func needChain(t *testing.T, l []spin.Q, want spin.Q) {
	t.Helper()
	if got, ok := spin.Chain(l); !ok || !sameQ(got, want) {
		t.Errorf("Chain(%x) = %x, %v, want %x", l, got, ok, want)
	}
}

func needNoChain(t *testing.T, l []spin.Q) {
	t.Helper()
	if got, ok := spin.Chain(l); ok || !sameQ(got, spin.Q{W: 1}) {
		t.Errorf("Chain of %d = %x, %v, want none", len(l), got, ok)
	}
}

// P43: no rotations, one, several; the first one is the one that is done first.
func TestKnownChain(t *testing.T) {
	i, j, k := spin.Q{X: 1}, spin.Q{Y: 1}, spin.Q{Z: 1}
	needChain(t, nil, spin.Q{W: 1})
	needChain(t, []spin.Q{}, spin.Q{W: 1})
	for _, q := range []spin.Q{{W: 7}, {W: -2}, {W: 5, X: 5, Y: 5, Z: 5}} {
		u, _ := q.Times(spin.Q{W: 1}).Unit()
		needChain(t, []spin.Q{q}, u)
	}
	if q, ok := spin.Chain([]spin.Q{i, j}); !ok || q != j.Times(i) || q != k.Back() {
		t.Errorf("Chain of i, j = %v, %v", q, ok)
	}
	if q, ok := spin.Chain([]spin.Q{j, i}); !ok || q != k {
		t.Errorf("Chain of j, i = %v, %v", q, ok)
	}
	q, ok := spin.Chain([]spin.Q{written, writtenOther, {W: 0.3, X: 0.3, Y: -0.4, Z: 0.2}})
	if !ok {
		t.Error("Chain is none")
	}
	needQBits(t, "Chain", "bfd8a11a551b4189 3fe20a5037b9c010 3fd0a1b07b988baa 3fe5db7ceb2c7f97", q)
}

// P43: it turns as its rotations do, one behind the other.
func TestChainTurns(t *testing.T) {
	dice := rand.New(rand.NewSource(46))
	for range 500 {
		var l []spin.Q
		v := vector(dice, true)
		want := v
		for range dice.Intn(6) {
			q, _ := spin.About(vector(dice, true), int(dice.Uint64()))
			l = append(l, q)
			want = q.Turn(want)
		}
		q, ok := spin.Chain(l)
		if !ok {
			t.Fatalf("Chain(%x) is none", l)
		}
		needNear(t, "Chain's turn", q.Turn(v), want)
	}
}

// P43: Chain to the bit, of ordinary and of odd numbers; its list stays as it is.
func TestChain(t *testing.T) {
	dice := rand.New(rand.NewSource(47))
	for n := range 5000 {
		l := make([]spin.Q, dice.Intn(8))
		for at := range l {
			l[at] = quaternion(dice, n%4 != 0 || at > 0)
		}
		want, wantOK := spin.Q{W: 1}, true
		for at := 0; at < len(l) && wantOK; at++ {
			want, wantOK = toldUnit(toldTimes(l[at], want))
		}
		before := slices.Clone(l)
		got, ok := spin.Chain(l)
		if ok != wantOK || !sameQ(got, want) {
			t.Fatalf("Chain(%x) = %x, %v, want %x, %v", l, got, ok, want, wantOK)
		}
		if !slices.EqualFunc(l, before, sameQ) {
			t.Fatal("Chain changed its list")
		}
	}
}

// P43: it is of size 1 all the way, so that long lists of great and small ones
// neither grow nor fade.
func TestChainLong(t *testing.T) {
	for _, size := range []float64{1, 3, 1e150, 1e-150} {
		l := make([]spin.Q, api.MaxList)
		for at := range l {
			l[at] = spin.Q{Z: size}
		}
		needChain(t, l[:api.MaxList-4], mustChain(t, l[:4]))
		needChain(t, l, mustChain(t, l[:4]))
		needNoChain(t, append(l, spin.Q{W: 1}))
		needNoChain(t, append(l, l...))
	}
}

func mustChain(t *testing.T, l []spin.Q) spin.Q {
	t.Helper()
	q, ok := spin.Chain(l)
	if !ok {
		t.Fatalf("Chain(%x) is none", l)
	}
	return q
}

// P43: one of them that has no size, anywhere, and there is no chain.
func TestNoChain(t *testing.T) {
	for _, bad := range []spin.Q{{}, {W: math.NaN()}, {X: math.Inf(1)}, {Y: 1e200}, {Z: 1e-200}} {
		for at := range 5 {
			l := []spin.Q{written, writtenOther, written, writtenOther, written}
			l[at] = bad
			needNoChain(t, l)
		}
	}
	l := []spin.Q{{X: 1}, {}}
	needChain(t, l[:1], spin.Q{X: 1})
}
