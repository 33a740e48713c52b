package move_test

import (
	"math"
	"math/rand"
	"testing"

	"meridian/api"
	"meridian/move"
)

type found struct{ at, a, b, far int }

func near(l []move.Body, steps int) (found, error) {
	at, a, b, far, err := move.Near(l, steps)
	return found{at, a, b, far}, err
}

func needNear(t *testing.T, l []move.Body, steps int, want found) {
	t.Helper()
	if got, err := near(l, steps); err != nil || got != want {
		t.Errorf("Near(%v, %d) = %v, %v, want %v", l, steps, got, err, want)
	}
}

// P74: when bodies were nearest, written out.
func TestKnownNear(t *testing.T) {
	for _, c := range []struct {
		steps int
		want  found
	}{
		{0, found{0, 0, 1, 81000000}}, {1, found{1, 0, 1, 80250481}}, {5, found{5, 0, 1, 76358749}}, {10, found{6, 0, 1, 76122932}},
		{43, found{43, 1, 2, 8538656}}, {44, found{44, 1, 2, 1857488}}, {45, found{44, 1, 2, 1857488}}, {237, found{44, 1, 2, 1857488}},
	} {
		needNear(t, three(), c.steps, c.want)
	}
	needNear(t, five(), 1, found{1, 0, 1, 94388562})
	needNear(t, five(), 7, found{7, 0, 1, 42596266})
	needNear(t, five(), 100, found{19, 1, 2, 5885501})
	needNear(t, pairs(), api.MaxSteps, found{1507, 0, 1, 23287840})
	most := api.MaxPlace
	needNear(t, []move.Body{{At: api.Cell{X: most, Y: most, Z: most}}, {At: api.Cell{X: -most, Y: -most, Z: -most}}}, api.MaxSteps, found{0, 0, 1, 3 << 42})
}

// at: bodies along an axis that weigh nothing.
func at(places ...int) []move.Body {
	l := make([]move.Body, len(places))
	for i, x := range places {
		l[i].At.X = x
	}
	return l
}

// P74: of several that are as near, the first step, then the first body, then the
// second.
func TestNearFirst(t *testing.T) {
	needNear(t, at(0, 100, 101, 1), 5, found{0, 0, 3, 1})
	needNear(t, at(0, 100, 101, 201), 5, found{0, 1, 2, 1})
	needNear(t, at(0, 50, 70, 1, -1), 5, found{0, 0, 3, 1})
	needNear(t, at(0, 50, 70, 70, 50, 0), 5, found{0, 0, 5, 0})
	needNear(t, at(9, 9, 9, 9), 0, found{0, 0, 1, 0})
	// One that comes by is as near to each of them at a step of its own.
	l := at(30, 20, 10, -1, 900)
	l[3].Speed.X = 1
	needNear(t, l, 100, found{11, 2, 3, 0})
	needNear(t, l, 10, found{10, 2, 3, 1})
	l[3].Speed.X = 2
	needNear(t, l, 100, found{5, 2, 3, 1})
	// They stay as near as they were.
	l = at(5, 8, 900)
	for i := range l {
		l[i].Speed.Y = 3
	}
	needNear(t, l, 1000, found{0, 0, 1, 9})
}

// P74: every pair of every step.
func TestNear(t *testing.T) {
	dice := rand.New(rand.NewSource(77))
	later, limits := 0, 0
	for range 600 {
		l, steps := bodies(dice), dice.Intn(61)
		states, ok := toldStates(l, steps)
		got, err := near(l, steps)
		if !ok || len(l) < 2 {
			want := api.ErrNone
			if !ok {
				want = api.ErrLimit
				limits++
			}
			if err != want || got != (found{}) {
				t.Fatalf("Near(%v, %d) = %v, %v, want %v", l, steps, got, err, want)
			}
			continue
		}
		if want := toldNear(states); err != nil || got != want {
			t.Fatalf("Near(%v, %d) = %v, %v, want %v", l, steps, got, err, want)
		}
		if got.at > 0 {
			later++
		}
	}
	if later < 50 || limits < 50 {
		t.Errorf("%d later than at step 0, %d beyond limits", later, limits)
	}
}

func toldNear(states [][]move.Body) found {
	best := found{far: -1}
	for i, l := range states {
		for a := 0; a < len(l); a++ {
			for b := a + 1; b < len(l); b++ {
				x, y, z := l[a].At.X-l[b].At.X, l[a].At.Y-l[b].At.Y, l[a].At.Z-l[b].At.Z
				if far := x*x + y*y + z*z; best.far < 0 || far < best.far {
					best = found{i, a, b, far}
				}
			}
		}
	}
	return best
}

// P74: errors, the first one named: those of Valid, of the steps, a limit, too few.
func TestNoNear(t *testing.T) {
	need := func(l []move.Body, steps int, want error) {
		t.Helper()
		if got, err := near(l, steps); err != want || got != (found{}) {
			t.Errorf("Near(%v, %d) = %v, %v, want %v", l, steps, got, err, want)
		}
	}
	for _, c := range wrongBodies() {
		need(c.l, 0, c.want)
		need(c.l, -1, c.want)
		need(c.l, api.MaxSteps+1, c.want)
	}
	for _, n := range []int{-1, -5, api.MaxSteps + 1, math.MaxInt, math.MinInt} {
		need(nil, n, api.ErrBound)
		need(three(), n, api.ErrBound)
		need([]move.Body{{At: api.Cell{X: api.MaxPlace}, Speed: api.Cell{X: 1}}}, n, api.ErrBound)
	}
	need(three(), 238, api.ErrLimit)
	need(three(), api.MaxSteps, api.ErrLimit)
	need([]move.Body{{Speed: api.Cell{Z: -api.MaxSpeed}}}, 2, api.ErrLimit)
	need([]move.Body{{Speed: api.Cell{Z: -api.MaxSpeed}}}, 1, api.ErrNone)
	// Nearer than at one place nothing is: the limit is told all the same.
	need([]move.Body{{}, {}, {At: api.Cell{X: api.MaxPlace - 9}, Speed: api.Cell{X: 1}}}, 10, api.ErrLimit)
	needNear(t, []move.Body{{}, {}, {At: api.Cell{X: api.MaxPlace - 9}, Speed: api.Cell{X: 1}}}, 9, found{0, 0, 1, 0})
	for _, n := range []int{0, 1, api.MaxSteps} {
		need(nil, n, api.ErrNone)
		need([]move.Body{}, n, api.ErrNone)
		need([]move.Body{{Mass: 3}}, n, api.ErrNone)
	}
}

// P4: the bodies that are handed over stay.
func TestNearMemory(t *testing.T) {
	l := five()
	if _, err := near(l, 50); err != nil || !same(l, five()) {
		t.Error(l, err)
	}
}
