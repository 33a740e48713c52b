package move_test

import (
	"math"
	"math/rand"
	"testing"

	"meridian/api"
	"meridian/move"
)

// P71: pulls, written out.
func TestKnownPull(t *testing.T) {
	for _, c := range []struct{ d, want api.Cell }{
		{api.Cell{}, api.Cell{}},
		{api.Cell{X: 1}, api.Cell{X: 1835456}}, {api.Cell{X: -1}, api.Cell{X: -1835456}},
		{api.Cell{Y: 1}, api.Cell{Y: 1835456}}, {api.Cell{Z: -1}, api.Cell{Z: -1835456}},
		{api.Cell{X: 1, Y: 2, Z: 3}, api.Cell{X: 1251447, Y: 2502894, Z: 3754342}},
		{api.Cell{X: 5}, api.Cell{X: 4640198}}, {api.Cell{X: 6}, api.Cell{X: 4601750}},
		{api.Cell{X: -3, Y: 4}, api.Cell{X: -2784118, Y: 3712158}},
		{api.Cell{X: 7, Y: -8, Z: 9}, api.Cell{X: 1387263, Y: -1585443, Z: 1783624}},
		{api.Cell{X: 100}, api.Cell{X: 98788}}, {api.Cell{X: 99, Y: -1, Z: 1}, api.Cell{X: 100685, Y: -1017, Z: 1017}},
		{api.Cell{X: 1000, Y: -2000, Z: 3000}, api.Cell{X: 20, Y: -40, Z: 61}},
		{api.Cell{X: -12345, Y: 6789, Z: 42}, api.Cell{X: -4, Y: 2}},
		{api.Cell{X: 32763}, api.Cell{X: 1}}, {api.Cell{X: 32764}, api.Cell{}},
		{api.Cell{Z: -32763}, api.Cell{Z: -1}}, {api.Cell{Z: -32764}, api.Cell{}},
		{api.Cell{X: 18918, Y: -18918, Z: 18918}, api.Cell{}},
	} {
		if got := move.Pull(c.d); got != c.want {
			t.Errorf("Pull(%v) = %v, want %v", c.d, got, c.want)
		}
	}
}

// P71: differences at their bound and beyond it, with a great and with a small number
// beside.
func TestFarPull(t *testing.T) {
	const most = 2 * api.MaxPlace
	for _, n := range []int{most, -most, most + 1, -most - 1, 1 << 31, 1 << 32, 1 << 61, math.MaxInt, math.MinInt} {
		for _, d := range []api.Cell{{X: n}, {Y: n}, {Z: n}, {X: n, Y: 1, Z: -1}, {X: 1, Y: n}, {X: 3, Y: -4, Z: n}, {X: n, Y: n, Z: n}, {X: n, Y: -n, Z: n}} {
			if got := move.Pull(d); got != (api.Cell{}) {
				t.Errorf("Pull(%v) = %v", d, got)
			}
		}
	}
}

// P71: differences of which (r2 + 64) * (r + 8) is near a power of 2 that is too great
// for an int, where a product that wraps round would be small.
func TestPullWrap(t *testing.T) {
	const most = 2 * api.MaxPlace
	for n := -300; n <= 300; n++ {
		for _, d := range []api.Cell{{X: most, Y: 1607301 + n}, {X: most, Y: most, Z: 1512048 + n}, {X: most - 300 + n}} {
			if got := move.Pull(d); got != (api.Cell{}) {
				t.Fatalf("Pull(%v) = %v", d, got)
			}
		}
	}
}

// P71: the pull in numbers of any size, of differences of all sizes.
func TestPull(t *testing.T) {
	dice := rand.New(rand.NewSource(71))
	pulled := 0
	for range 50000 {
		n := func() int { return (dice.Intn(1<<23) - 1<<22) >> dice.Intn(23) }
		d := api.Cell{X: n(), Y: n(), Z: n()}
		got := move.Pull(d)
		if want := toldPull(d); got != want {
			t.Fatalf("Pull(%v) = %v, want %v", d, got, want)
		}
		if got != (api.Cell{}) {
			pulled++
		}
	}
	if pulled < 5000 || pulled > 45000 {
		t.Errorf("%d pulls", pulled)
	}
}

// P71: the root is the greatest whole number: just below a square it is one less.
func TestPullAtSquares(t *testing.T) {
	for n := 2; n < 3000; n++ {
		for _, d := range []api.Cell{{X: n}, {X: n - 1, Y: 1}, {X: n - 1, Y: 1, Z: 1}, {X: n, Z: 1}} {
			if got := move.Pull(d); got != toldPull(d) {
				t.Fatalf("Pull(%v) = %v, want %v", d, got, toldPull(d))
			}
		}
	}
	// 2*2 + 2*2 + 0 and 2*2 + 2*2 + 1*1: roots of 2 and 3.
	for d, want := range map[api.Cell]api.Cell{
		{X: 2, Y: 2}:       {X: 2 << 30 / (72 * 10), Y: 2 << 30 / (72 * 10)},
		{X: 2, Y: 2, Z: 1}: {X: 2 << 30 / (73 * 11), Y: 2 << 30 / (73 * 11), Z: 1 << 30 / (73 * 11)},
	} {
		if got := move.Pull(d); got != want {
			t.Errorf("Pull(%v) = %v, want %v", d, got, want)
		}
	}
}

// P71: the pull is turned where the difference is turned.
func TestPullTurned(t *testing.T) {
	dice := rand.New(rand.NewSource(72))
	for range 5000 {
		d := cell(dice, 40000)
		p := move.Pull(d)
		if got := move.Pull(api.Cell{X: -d.X, Y: -d.Y, Z: -d.Z}); got != (api.Cell{X: -p.X, Y: -p.Y, Z: -p.Z}) {
			t.Fatalf("of %v: %v, and turned %v", d, p, got)
		}
		if got := move.Pull(api.Cell{X: d.Z, Y: -d.X, Z: d.Y}); got != (api.Cell{X: p.Z, Y: -p.X, Z: p.Y}) {
			t.Fatalf("of %v: %v, and turned %v", d, p, got)
		}
	}
}
