package move_test

import (
	"math/rand"
	"testing"

	"meridian/api"
	"meridian/move"
)

// P73: sums, written out, up to the greatest ones.
func TestKnownPushMiddle(t *testing.T) {
	most := make([]move.Body, api.MaxBodies)
	for i := range most {
		most[i] = move.Body{At: api.Cell{X: api.MaxPlace, Y: -api.MaxPlace}, Speed: api.Cell{X: -api.MaxSpeed, Z: api.MaxSpeed}, Mass: api.MaxMass}
	}
	const great = 12 << 36
	for _, c := range []struct {
		l            []move.Body
		push, middle api.Cell
	}{
		{nil, api.Cell{}, api.Cell{}},
		{[]move.Body{{At: api.Cell{X: 1, Y: 2, Z: -3}, Speed: api.Cell{X: -4, Y: 5, Z: 6}, Mass: 7}}, api.Cell{X: -28, Y: 35, Z: 42}, api.Cell{X: 7, Y: 14, Z: -21}},
		{[]move.Body{{At: api.Cell{X: 1, Y: 2, Z: -3}, Speed: api.Cell{X: -4, Y: 5, Z: 6}}}, api.Cell{}, api.Cell{}},
		{three(), api.Cell{X: 1700, Y: 9000}, api.Cell{X: 27000, Y: -20000, Z: 500}},
		{five(), api.Cell{X: -7900, Y: 810, Z: 1478}, api.Cell{X: 159200, Y: -304000, Z: -89014}},
		{most, api.Cell{X: -great, Z: great}, api.Cell{X: great, Y: -great}},
	} {
		if push, middle := move.Push(c.l), move.Middle(c.l); push != c.push || middle != c.middle {
			t.Errorf("of %v: %v, %v, want %v, %v", c.l, push, middle, c.push, c.middle)
		}
	}
}

// P73: of what Valid does not take, 0, also where the wrong thing is none of the sum's.
func TestNoPushMiddle(t *testing.T) {
	for _, c := range wrongBodies() {
		if len(c.l) > api.MaxBodies+1 {
			continue
		}
		l := append([]move.Body{}, c.l...)
		for i := range l {
			l[i].Speed.X |= 1
			l[i].At.Y |= 1
		}
		l = append(l, move.Body{At: api.Cell{X: 1}, Speed: api.Cell{Y: 1}, Mass: 1})
		if push, middle := move.Push(l), move.Middle(l); push != (api.Cell{}) || middle != (api.Cell{}) {
			t.Errorf("of %v: %v, %v", l, push, middle)
		}
	}
}

// P73: the push stays, and the middle gains it in each step, there and back.
func TestStays(t *testing.T) {
	dice := rand.New(rand.NewSource(76))
	moved := 0
	for range 600 {
		l, n := bodies(dice), dice.Intn(201)-100
		there, err := move.Run(l, n)
		if err != nil {
			continue
		}
		p, a, b := move.Push(l), move.Middle(l), move.Middle(there)
		if got := move.Push(there); got != p {
			t.Fatalf("Push of %v = %v, behind %d steps %v", l, p, n, got)
		}
		if want := (api.Cell{X: a.X + n*p.X, Y: a.Y + n*p.Y, Z: a.Z + n*p.Z}); b != want {
			t.Fatalf("Middle of %v = %v, behind %d steps %v, want %v", l, a, n, b, want)
		}
		if a != b {
			moved++
		}
	}
	if moved < 100 {
		t.Errorf("%d moved", moved)
	}
}
