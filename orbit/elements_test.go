package orbit_test

import (
	"math"
	"math/rand"
	"testing"

	"meridian/api"
	"meridian/orbit"
)

// far: elements whose numbers are all as great as they may be.
func far() orbit.Elements {
	return orbit.Elements{
		A: math.MaxFloat64, E: 1 - 0x1p-53, Tilt: api.MaxAngle, Node: -api.MaxAngle, Peri: api.MaxAngle, Mean: -api.MaxAngle,
		Epoch: -api.MaxTime, Daily: 100 * api.Turn,
	}
}

// other: elements of which one thing is another.
func other(k orbit.Elements, change func(k *orbit.Elements)) orbit.Elements {
	change(&k)
	return k
}

// P61: elements that are valid, up to the edges.
func TestValid(t *testing.T) {
	for _, k := range []orbit.Elements{
		{A: 1}, {A: 0x1p-1074}, {A: 1, E: minusZero}, {A: 1, E: 0x1p-1074}, {A: 2, E: 0.5, Daily: -100 * api.Turn, Epoch: api.MaxTime}, far(),
		{A: 1, Tilt: -api.MaxAngle, Node: api.MaxAngle, Peri: -api.MaxAngle, Mean: api.MaxAngle},
	} {
		if err := k.Valid(); err != nil {
			t.Errorf("%v: %v", k, err)
		}
	}
}

// wrong elements, and the error that each is told for: the first one, where several
// things are wrong.
func wrong() map[orbit.Elements]error {
	l := map[orbit.Elements]error{}
	add := func(err error, change func(k *orbit.Elements)) {
		l[other(orbit.Elements{A: 1}, change)] = err
		l[other(far(), change)] = err
	}
	for _, a := range []float64{0, minusZero, -1, -0x1p-1074, math.Inf(1), math.Inf(-1)} {
		add(api.ErrShape, func(k *orbit.Elements) { k.A = a })
	}
	for _, e := range noEccentricities {
		if e == e { // a NaN is no key
			add(api.ErrShape, func(k *orbit.Elements) { k.E = e })
		}
	}
	for _, n := range noInstants {
		add(api.ErrTime, func(k *orbit.Elements) { k.Epoch = n })
		add(api.ErrTime, func(k *orbit.Elements) { k.Epoch, k.Daily, k.Node = n, n, math.MinInt })
		add(api.ErrShape, func(k *orbit.Elements) { k.Epoch, k.E, k.Daily = n, 1, math.MinInt })
		add(api.ErrShape, func(k *orbit.Elements) { k.Epoch, k.A = n, 0 })
	}
	for _, n := range []int{100*api.Turn + 1, -100*api.Turn - 1, math.MaxInt, math.MinInt} {
		add(api.ErrBound, func(k *orbit.Elements) { k.Daily = n })
		add(api.ErrShape, func(k *orbit.Elements) { k.Daily, k.A = n, -1 })
	}
	for _, n := range []int{api.MaxAngle + 1, -api.MaxAngle - 1, math.MaxInt, math.MinInt} {
		add(api.ErrBound, func(k *orbit.Elements) { k.Tilt = n })
		add(api.ErrBound, func(k *orbit.Elements) { k.Node = n })
		add(api.ErrBound, func(k *orbit.Elements) { k.Peri = n })
		add(api.ErrBound, func(k *orbit.Elements) { k.Mean = n })
	}
	return l
}

// needWrong: every call tells the error, bare, and zeros beside it.
func needWrong(t *testing.T, k orbit.Elements, at int, want error) {
	t.Helper()
	if m, err := k.MeanAt(at); err != want || m != 0 {
		t.Errorf("MeanAt(%d) of %v = %d, %v, want %v", at, k, m, err, want)
	}
	if v, err := k.At(at); err != want || !sameVec(v, api.Vec{}) {
		t.Errorf("At(%d) of %v = %v, %v, want %v", at, k, v, err, want)
	}
	if l, err := k.Path([]int{at, 0}); err != want || len(l) != 0 {
		t.Errorf("Path(%d) of %v = %v, %v, want %v", at, k, l, err, want)
	}
}

// P61, P62: elements that are wrong; their error comes ahead of that of an instant.
func TestNotValid(t *testing.T) {
	l := wrong()
	if len(l) < 80 {
		t.Error(len(l))
	}
	for k, want := range l {
		if err := k.Valid(); err != want {
			t.Errorf("%v: %v, want %v", k, err, want)
		}
		needWrong(t, k, 5, want)
		needWrong(t, k, api.MaxTime+1, want)
	}
	for _, k := range []orbit.Elements{{A: math.NaN(), Epoch: math.MinInt}, {A: 1, E: math.NaN(), Daily: math.MinInt}} {
		if err := k.Valid(); err != api.ErrShape {
			t.Errorf("%v: %v", k, err)
		}
		needWrong(t, k, 5, api.ErrShape)
	}
}

// P61, P62: what is no instant.
func TestNoInstant(t *testing.T) {
	for _, n := range noInstants {
		needWrong(t, orbit.Elements{A: 1}, n, api.ErrTime)
		needWrong(t, far(), n, api.ErrTime)
	}
}

// P61: mean anomalies, written out.
func TestKnownMeanAt(t *testing.T) {
	slow := orbit.Elements{A: 2, E: 0.5, Mean: 10, Epoch: 100, Daily: 1}
	odd := orbit.Elements{A: 3.7, E: 0.123, Mean: -api.MaxAngle, Epoch: -api.MaxTime, Daily: 100 * api.Turn}
	back := orbit.Elements{A: 3.7, E: 0.123, Mean: api.MaxAngle, Epoch: api.MaxTime, Daily: -100*api.Turn + 1}
	for _, c := range []struct {
		k       orbit.Elements
		t, want int
	}{
		{slow, 100, 10}, {slow, 101, 10}, {slow, 99, 9}, {slow, 100 + api.DayLong, 11}, {slow, 99 + api.DayLong, 10}, {slow, 101 + api.DayLong, 11},
		{slow, 100 - api.DayLong, 9}, {slow, 99 - api.DayLong, 8}, {slow, 101 - api.DayLong, 9},
		{slow, 100 - 11*api.DayLong, api.Turn - 1}, {slow, 100 - 10*api.DayLong, 0},
		{odd, api.MaxTime, 671393153024}, {odd, api.MaxTime - 1, 671393151524}, {odd, 0, 383393153024}, {odd, -api.MaxTime, 95393153024},
		{back, -api.MaxTime, 480599902531}, {back, 1 - api.MaxTime, 480599901031}, {back, 0, 192603374753}, {back, api.MaxTime, 1200606846976},
	} {
		if got, err := c.k.MeanAt(c.t); err != nil || got != c.want {
			t.Errorf("MeanAt(%d) of %v = %d, %v, want %d", c.t, c.k, got, err, c.want)
		}
	}
}

// P61: MeanAt is the exact number, rounded down.
func TestMeanAt(t *testing.T) {
	dice := rand.New(rand.NewSource(63))
	for range 20000 {
		k, n := elements(dice), sized(dice, api.MaxTime)
		if dice.Intn(3) == 0 {
			n = min(max(k.Epoch+(dice.Intn(21)-10)*api.DayLong+dice.Intn(5)-2, -api.MaxTime), api.MaxTime)
		}
		if got, err := k.MeanAt(n); err != nil || got != toldMean(k, n) {
			t.Fatalf("MeanAt(%d) of %v = %d, %v, want %d", n, k, got, err, toldMean(k, n))
		}
	}
}
