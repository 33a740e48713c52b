package move_test

import (
	"math"
	"math/rand"
	"testing"

	"meridian/api"
	"meridian/move"
)

// P72: runs there and back, written out.
func TestKnownRun(t *testing.T) {
	for _, c := range []struct {
		l     []move.Body
		steps int
		want  []move.Body
	}{
		{nil, 0, nil}, {nil, 5, nil}, {[]move.Body{}, -5, nil}, {nil, api.MaxSteps, nil}, {nil, -api.MaxSteps, nil},
		{three(), 0, three()}, {five(), 0, five()},
		{three(), 1, []move.Body{
			{At: api.Cell{X: 39, Y: -2}, Speed: api.Cell{X: 75, Y: 8}, Mass: 40},
			{At: api.Cell{X: 8480, Y: 2998}, Speed: api.Cell{X: -1000, Y: 2837}, Mass: 3},
			{At: api.Cell{X: 1700, Y: -19914, Z: 500}, Speed: api.Cell{X: 1700, Y: 169}, Mass: 1},
		}},
		{three(), -1, []move.Body{
			{At: api.Cell{X: 39, Y: -2}, Speed: api.Cell{X: -75, Y: 16}, Mass: 40},
			{At: api.Cell{X: 8480, Y: -3002}, Speed: api.Cell{X: 1001, Y: 2844}, Mass: 3},
			{At: api.Cell{X: -1700, Y: -19914, Z: 500}, Speed: api.Cell{X: 1697, Y: -172}, Mass: 1},
		}},
		{three(), 200, []move.Body{
			{At: api.Cell{X: 22086, Y: 33712}, Speed: api.Cell{X: 133, Y: 162}, Mass: 40},
			{At: api.Cell{X: -453632, Y: 40640, Z: -3598}, Speed: api.Cell{X: -3006, Y: 174, Z: -24}, Mass: 3},
			{At: api.Cell{X: 844456, Y: 309600, Z: 11294}, Speed: api.Cell{X: 5398, Y: 1998, Z: 72}, Mass: 1},
		}},
		{three(), -200, []move.Body{
			{At: api.Cell{X: -1828, Y: -41670}, Speed: api.Cell{X: -291, Y: 225}, Mass: 40},
			{At: api.Cell{X: -1944, Y: -48180}, Speed: api.Cell{X: 3958, Y: 60}, Mass: 3},
			{At: api.Cell{X: -234048, Y: -8660, Z: 500}, Speed: api.Cell{X: 1466, Y: -180}, Mass: 1},
		}},
		{five(), 60, []move.Body{
			{At: api.Cell{X: 40202, Y: 116160, Z: -9384}, Speed: api.Cell{X: 1078, Y: 3131, Z: -202}, Mass: 30},
			{At: api.Cell{X: 37912, Y: -129430, Z: -59232}, Speed: api.Cell{X: 877, Y: -3060, Z: -1364}, Mass: 20},
			{At: api.Cell{X: -111656, Y: 11836, Z: 221724}, Speed: api.Cell{X: -2696, Y: 308, Z: 5404}, Mass: 9},
			{At: api.Cell{X: -8808, Y: 96604, Z: 4237}, Speed: api.Cell{X: -311, Y: 3119, Z: -83}},
			{At: api.Cell{X: -91014, Y: -89866, Z: -37835}, Speed: api.Cell{X: -2394, Y: -2478, Z: -987}, Mass: 14},
		}},
		{five(), -60, []move.Body{
			{At: api.Cell{X: 2926, Y: 16370, Z: 3426}, Speed: api.Cell{X: -218, Y: -609, Z: -198}, Mass: 30},
			{At: api.Cell{X: 69770, Y: 28034, Z: 836}, Speed: api.Cell{X: -1179, Y: -782, Z: -80}, Mass: 20},
			{At: api.Cell{X: -111432, Y: -82508, Z: 26984}, Speed: api.Cell{X: 2556, Y: 1680, Z: -580}, Mass: 9},
			{At: api.Cell{X: -53196, Y: -59390, Z: -90459}, Speed: api.Cell{X: 1793, Y: 1521, Z: 2283}},
			{At: api.Cell{X: 10922, Y: -47272, Z: -38575}, Speed: api.Cell{X: -56, Y: 1400, Z: 1017}, Mass: 14},
		}},
	} {
		got, err := move.Run(c.l, c.steps)
		needBodies(t, "Run", got, err, c.want)
	}
}

// P71, P72: each step in numbers of any size, there and back, and the first one behind
// which a limit is passed.
func TestRun(t *testing.T) {
	dice := rand.New(rand.NewSource(73))
	whole := 0
	for range 600 {
		l, steps := bodies(dice), dice.Intn(121)-60
		states, ok := toldStates(l, steps)
		last, way := len(states)-1, 1
		if steps < 0 {
			way = -1
		}
		got, err := move.Run(l, way*last)
		needBodies(t, "Run", got, err, states[last])
		if ok {
			whole++
			continue
		}
		for _, n := range []int{last + 1, last + 2, 100} {
			if got, err := move.Run(l, way*n); err != api.ErrLimit || len(got) != 0 {
				t.Fatalf("Run(%v, %d) = %v, %v", l, way*n, got, err)
			}
		}
	}
	if whole < 100 || whole > 550 {
		t.Errorf("%d whole runs", whole)
	}
}

// P72: what was done is undone, and can be done in pieces.
func TestRunBack(t *testing.T) {
	dice := rand.New(rand.NewSource(74))
	done := 0
	for range 1000 {
		l, n, m := bodies(dice), dice.Intn(401)-200, dice.Intn(101)
		there, err := move.Run(l, n)
		if err != nil {
			continue
		}
		done++
		back, err := move.Run(there, -n)
		needBodies(t, "Run back", back, err, l)
		if n < 0 {
			m = -m
		}
		m %= max(n, -n) + 1
		part, err := move.Run(l, m)
		if err != nil {
			t.Fatal(err)
		}
		rest, err := move.Run(part, n-m)
		needBodies(t, "Run in pieces", rest, err, there)
	}
	if done < 200 {
		t.Errorf("%d runs", done)
	}
}

// pairs: six light ones that go round six others, for as long as steps may last.
func pairs() []move.Body {
	l := make([]move.Body, 0, api.MaxBodies)
	for i := range api.MaxBodies / 2 {
		x := 200000*i - 500000
		l = append(l, move.Body{At: api.Cell{X: x}, Mass: 1},
			move.Body{At: api.Cell{X: x + 10000}, Speed: api.Cell{Y: 380 + 20*i, Z: 100 * (i % 2)}})
	}
	return l
}

// P72: all the steps that there may be, of all the bodies that there may be.
func TestRunLong(t *testing.T) {
	there, err := move.Run(pairs(), api.MaxSteps)
	if err != nil || len(there) != api.MaxBodies {
		t.Fatal(there, err)
	}
	for i, want := range map[int]move.Body{
		0:  {At: api.Cell{X: -500000}, Mass: 1},
		1:  {At: api.Cell{X: -496048, Y: 3476}, Speed: api.Cell{X: -535, Y: 489}},
		3:  {At: api.Cell{X: -293976, Y: 7142, Z: -2452}, Speed: api.Cell{X: -369, Y: 234, Z: 44}},
		11: {At: api.Cell{X: 509392, Y: -30840, Z: -16410}, Speed: api.Cell{X: 170, Y: -64, Z: -70}},
	} {
		if there[i] != want {
			t.Errorf("%d: %v, want %v", i, there[i], want)
		}
	}
	back, err := move.Run(there, -api.MaxSteps)
	needBodies(t, "Run back", back, err, pairs())
}

// P72: wrong bodies, ahead of wrong numbers of steps; limits are those behind a step.
func TestNoRun(t *testing.T) {
	for _, c := range wrongBodies() {
		for _, n := range []int{0, 1, -1, api.MaxSteps + 1, math.MinInt} {
			if l, err := move.Run(c.l, n); err != c.want || len(l) != 0 {
				t.Errorf("Run(%v, %d) = %v, %v, want %v", c.l, n, l, err, c.want)
			}
		}
	}
	for _, n := range []int{api.MaxSteps + 1, -api.MaxSteps - 1, math.MaxInt, math.MinInt, math.MinInt + 1} {
		for _, l := range [][]move.Body{nil, {{}}, {{Speed: api.Cell{X: api.MaxSpeed}}}, three()} {
			if got, err := move.Run(l, n); err != api.ErrBound || len(got) != 0 {
				t.Errorf("Run(%v, %d) = %v, %v", l, n, got, err)
			}
		}
	}
}

// P72: a body alone goes as far as the limit, on each axis, there and back.
func TestRunToLimit(t *testing.T) {
	turn := func(c api.Cell) api.Cell { return api.Cell{X: c.Z, Y: c.X, Z: c.Y} }
	for _, way := range []int{1, -1} {
		for _, side := range []int{1, -1} {
			for _, c := range []struct{ place, speed, steps int }{
				{api.MaxPlace - 5, 1, 5}, {api.MaxPlace - 6, 2, 3}, {api.MaxPlace - 5, 2, 2}, {-api.MaxPlace, api.MaxSpeed, 2}, {api.MaxPlace, 1, 0},
			} {
				b := move.Body{At: api.Cell{X: side * c.place}, Speed: api.Cell{X: side * way * c.speed}, Mass: 1}
				for range 3 {
					b.At, b.Speed = turn(b.At), turn(b.Speed)
					if l, err := move.Run([]move.Body{b}, way*c.steps); err != nil || len(l) != 1 {
						t.Errorf("Run(%v, %d) = %v, %v", b, way*c.steps, l, err)
					}
					if l, err := move.Run([]move.Body{b}, way*(c.steps+1)); err != api.ErrLimit || len(l) != 0 {
						t.Errorf("Run(%v, %d) = %v, %v", b, way*(c.steps+1), l, err)
					}
				}
			}
		}
	}
}

// P72: a speed counts behind a step, not between its kicks; a place counts behind each
// step, also where the last one is within the limits again.
func TestRunLimits(t *testing.T) {
	fast := func(mass int) []move.Body {
		return []move.Body{{At: api.Cell{X: -900000}}, {At: api.Cell{X: -899900}, Mass: mass}}
	}
	l, err := move.Run(fast(10), 1)
	needBodies(t, "Run", l, err, []move.Body{{At: api.Cell{X: 87880}, Speed: api.Cell{X: 987880}}, {At: api.Cell{X: -899900}, Mass: 10}})
	if l, err := move.Run(fast(11), 1); err != api.ErrLimit || len(l) != 0 {
		t.Errorf("too fast: %v, %v", l, err)
	}
	between := []move.Body{{At: api.Cell{X: -500000}, Speed: api.Cell{X: api.MaxSpeed}}, {At: api.Cell{X: -499900}, Mass: 1}, {At: api.Cell{X: 647264}, Mass: 1}}
	l, err = move.Run(between, 1)
	needBodies(t, "Run", l, err, []move.Body{{At: api.Cell{X: 647364}, Speed: api.Cell{X: api.MaxSpeed}}, between[1], between[2]})
	l, err = move.Run(l, -1)
	needBodies(t, "Run back", l, err, between)
	again := []move.Body{{At: api.Cell{X: api.MaxPlace}, Speed: api.Cell{X: 10}}, {At: api.Cell{X: api.MaxPlace - 20000}, Mass: 1}}
	for n := range 12 {
		if l, err := move.Run(again, n+1); err != api.ErrLimit || len(l) != 0 {
			t.Errorf("within again: %d: %v, %v", n+1, l, err)
		}
	}
}

// P1, P72: the greatest masses so near that they are thrown as far as can be.
func TestRunThrown(t *testing.T) {
	dice := rand.New(rand.NewSource(75))
	for range 300 {
		l := make([]move.Body, 2+dice.Intn(api.MaxBodies-1))
		for i := range l {
			l[i] = move.Body{At: cell(dice, 8), Speed: cell(dice, api.MaxSpeed), Mass: api.MaxMass - dice.Intn(2)}
		}
		for _, n := range []int{1, -1} {
			states, ok := toldStates(l, n)
			got, err := move.Run(l, n)
			if ok {
				needBodies(t, "Run", got, err, states[1])
			} else if err != api.ErrLimit || len(got) != 0 {
				t.Errorf("Run(%v, %d) = %v, %v", l, n, got, err)
			}
		}
	}
}

// P71: bodies at one place do not pull each other.
func TestRunAtOnePlace(t *testing.T) {
	l := []move.Body{{Mass: api.MaxMass}, {Mass: api.MaxMass}, {Mass: 7}}
	got, err := move.Run(l, 50)
	needBodies(t, "Run", got, err, l)
}

// P4: the bodies that are handed over stay, and what is answered is new memory.
func TestRunMemory(t *testing.T) {
	for _, n := range []int{0, 3, -3} {
		l := five()
		got, err := move.Run(l, n)
		if err != nil || !same(l, five()) {
			t.Errorf("%d steps: %v, %v", n, l, err)
		}
		for i := range got {
			got[i] = move.Body{}
		}
		if !same(l, five()) {
			t.Errorf("%d steps: what is answered shares memory: %v", n, l)
		}
	}
}
