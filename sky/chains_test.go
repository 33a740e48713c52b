package sky_test

import (
	"math"
	"math/rand"
	"slices"
	"testing"

	"meridian/api"
	"meridian/bits"
	"meridian/sky"
)

// P54: chains, what they make of a vector written out.
func TestKnownChains(t *testing.T) {
	v, w := api.Vec{X: 0.1, Y: -0.2, Z: 0.7}, api.Vec{X: 1, Y: 2, Z: 3}
	for _, c := range []struct {
		l              []sky.Step
		v              api.Vec
		along, against string
	}{
		{[]sky.Step{{0, 123456789012}}, v, "3fb999999999999a bfe1e888b51f32d6 3fddccd368114c0e", "3fb999999999999a 3fcd557829797e1a 3fe61caba19a3d8f"},
		{[]sky.Step{{1, 123456789012}}, v, "3fde877c14ddfc05 bfc999999999999a 3fe0b3fa2f6d0be9", "bfd3f4516a1d28b5 bfc999999999999a 3fe44f1b2635d7ad"},
		{[]sky.Step{{2, 123456789012}}, v, "3fc8ffae85e40261 bfbbe026cfe01e2f 3fe6666666666666", "bf9ecac98312de08 bfcc5c9743133e28 3fe6666666666666"},
		{[]sky.Step{{0, 5 * degree}, {1, 70 * degree}, {2, -33 * degree}}, w, "400dc71d9a371aa5 bfd69d54ddb52a18 3fc22fb8fd82c6f0", "c0073d02e4ddf2dc 400242693a41317b 3fe3013a03928718"},
		{[]sky.Step{{2, api.Turn / 8}}, w, "bfe6a09e667f3bce 4000f876ccdf6cd9 4008000000000000", "4000f876ccdf6cd9 3fe6a09e667f3bce 4008000000000000"},
		{[]sky.Step{{0, api.Turn / 8}}, w, "3ff0000000000000 bfe6a09e667f3bd0 400c48c6001f0ac0", "3ff0000000000000 400c48c6001f0ac0 3fe6a09e667f3bd0"},
		{[]sky.Step{{1, api.Turn / 8}}, w, "4006a09e667f3bcd 4000000000000000 3ff6a09e667f3bcc", "bff6a09e667f3bcc 4000000000000000 4006a09e667f3bcd"},
		{[]sky.Step{{2, api.Turn / 8}, {0, -api.Turn / 8}, {1, math.MinInt}, {1, math.MaxInt}}, api.Vec{X: 1e300, Y: -1e-300, Z: 5}, "7e30e4d50f99f1be 7e27e43c8800759d fe27e43c87ffc182", "7e30e4d50f99f1be fe30e4d50f997263 fbd6835cb9b0b54a"},
		{nil, api.Vec{X: minusZero, Y: 1, Z: math.Inf(1)}, "8000000000000000 3ff0000000000000 7ff0000000000000", "8000000000000000 3ff0000000000000 7ff0000000000000"},
		{[]sky.Step{{2, 0}}, api.Vec{X: minusZero, Z: minusZero}, "8000000000000000 0000000000000000 8000000000000000", "8000000000000000 0000000000000000 8000000000000000"},
	} {
		got, err := sky.Along(c.l, c.v)
		if err != nil {
			t.Error(c.l, err)
		}
		needBits(t, "Along", got, c.along)
		if got, err = sky.Against(c.l, c.v); err != nil {
			t.Error(c.l, err)
		}
		needBits(t, "Against", got, c.against)
	}
}

func chain(dice *rand.Rand, long int) []sky.Step {
	l := make([]sky.Step, long)
	for i := range l {
		l[i] = sky.Step{Axis: dice.Intn(3), By: angle(dice)}
	}
	return l
}

// P54: chains to the bit, of ordinary vectors and of odd ones; the list is as it was.
func TestChains(t *testing.T) {
	dice := rand.New(rand.NewSource(58))
	for n := range 10000 {
		l, v := chain(dice, dice.Intn(7)), vector(dice, n%2 == 0)
		kept := slices.Clone(l)
		along, err := sky.Along(l, v)
		if want := toldAlong(l, v); err != nil || !sameVec(along, want) {
			t.Fatalf("Along(%v, %s) = %s, %v, want %s", l, textOf(v), textOf(along), err, textOf(want))
		}
		against, err := sky.Against(l, v)
		if want := toldAgainst(l, v); err != nil || !sameVec(against, want) {
			t.Fatalf("Against(%v, %s) = %s, %v, want %s", l, textOf(v), textOf(against), err, textOf(want))
		}
		if !slices.Equal(l, kept) {
			t.Fatalf("%v has become %v", kept, l)
		}
	}
}

// P54: against a chain, one comes back, but for rounding; the longest chain is not
// too long.
func TestBackAgain(t *testing.T) {
	dice := rand.New(rand.NewSource(59))
	for _, long := range []int{0, 1, 2, 3, 10, 100, api.MaxList - 1, api.MaxList} {
		l, v := chain(dice, long), vector(dice, true)
		there, err := sky.Along(l, v)
		if err != nil {
			t.Error(long, err)
		}
		back, err := sky.Against(l, there)
		far := bits.Length(api.Vec{X: back.X - v.X, Y: back.Y - v.Y, Z: back.Z - v.Z})
		if err != nil || far > 1e-11 {
			t.Errorf("%d steps there and back: %v, %v, want %v", long, back, err, v)
		}
	}
}

// P54: chains that are too long, or have another axis.
func TestNoChains(t *testing.T) {
	long := make([]sky.Step, api.MaxList+1)
	longAndWrong := slices.Clone(long)
	longAndWrong[0].Axis = 3
	lastWrong := make([]sky.Step, api.MaxList)
	lastWrong[api.MaxList-1].Axis = -1
	firstWrong := make([]sky.Step, api.MaxList)
	firstWrong[0].Axis = 3
	for _, c := range []struct {
		l    []sky.Step
		want error
	}{
		{long, api.ErrBound}, {longAndWrong, api.ErrBound}, {lastWrong, api.ErrShape}, {firstWrong, api.ErrShape},
		{[]sky.Step{{Axis: 3}}, api.ErrShape}, {[]sky.Step{{Axis: -1}}, api.ErrShape}, {[]sky.Step{{Axis: math.MaxInt}}, api.ErrShape},
		{[]sky.Step{{Axis: math.MinInt}}, api.ErrShape}, {[]sky.Step{{Axis: 2}, {Axis: 4}, {Axis: 1}}, api.ErrShape},
	} {
		for _, call := range []func([]sky.Step, api.Vec) (api.Vec, error){sky.Along, sky.Against} {
			for _, v := range []api.Vec{{X: 1, Y: 2, Z: 3}, {X: minusZero, Y: math.NaN(), Z: math.Inf(1)}} {
				if got, err := call(c.l, v); err != c.want || !sameVec(got, api.Vec{}) {
					t.Errorf("%d steps: %v, %v, want %v", len(c.l), got, err, c.want)
				}
			}
		}
	}
}

// P54: what lies behind a chain's length is not gone along.
func TestBehindAChain(t *testing.T) {
	l := []sky.Step{{2, 5}, {7, 5}}
	v := api.Vec{X: 1, Y: 2, Z: 3}
	if got, err := sky.Along(l[:1], v); err != nil || !sameVec(got, toldAlong(l[:1], v)) {
		t.Error(got, err)
	}
	if got, err := sky.Against(l[:1], v); err != nil || !sameVec(got, toldAgainst(l[:1], v)) {
		t.Error(got, err)
	}
	if l[1] != (sky.Step{Axis: 7, By: 5}) {
		t.Error(l)
	}
}
