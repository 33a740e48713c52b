package move_test

import (
	"math"
	"testing"

	"meridian/api"
	"meridian/move"
)

// P70: bodies that are valid, up to the edges.
func TestValid(t *testing.T) {
	most := make([]move.Body, api.MaxBodies)
	for i := range most {
		most[i] = move.Body{
			At:    api.Cell{X: api.MaxPlace, Y: -api.MaxPlace, Z: api.MaxPlace},
			Speed: api.Cell{X: -api.MaxSpeed, Y: api.MaxSpeed, Z: -api.MaxSpeed},
			Mass:  api.MaxMass,
		}
	}
	for _, l := range [][]move.Body{nil, {}, {{}}, three(), five(), most, most[:1], make([]move.Body, api.MaxBodies)} {
		if err := move.Valid(l); err != nil {
			t.Errorf("%v: %v", l, err)
		}
	}
}

// P70: bodies that are not. The errors are bare.
func TestNotValid(t *testing.T) {
	for _, c := range wrongBodies() {
		if err := move.Valid(c.l); err != c.want {
			t.Errorf("%v: %v, want %v", c.l, err, c.want)
		}
	}
}

// P70, P3: bodies behind the list's length are not looked at.
func TestBehind(t *testing.T) {
	l := append(three(), move.Body{Mass: -1, At: api.Cell{X: math.MinInt}, Speed: api.Cell{X: 1}})[:3]
	if err := move.Valid(l); err != nil {
		t.Error(err)
	}
	got, err := move.Run(l, 1)
	want, _ := move.Run(three(), 1)
	needBodies(t, "Run", got, err, want)
	if b := l[:4][3]; b != (move.Body{Mass: -1, At: api.Cell{X: math.MinInt}, Speed: api.Cell{X: 1}}) {
		t.Errorf("behind the length stands %v", b)
	}
}
