package night_test

import (
	"math"
	"math/rand"
	"slices"
	"strconv"
	"testing"

	"meridian/api"
	"meridian/event"
	"meridian/night"
)

// foreign instruments: by their kinds like those of the package, one of them with one inside.
type foreign string

func (f foreign) Kind() string { return string(f) }

type wrapped struct{ night.Instrument }

type silent struct{}

func (s *silent) Kind() string { panic("nobody may ask") }

func needFit(t *testing.T, h *night.House, name string, x night.Instrument, want error) {
	t.Helper()
	if err := h.Fit(name, x); err != want {
		t.Fatalf("Fit(%q) = %v, want %v", name, err, want)
	}
}

// needShoot: these pictures, of one pixel each; or that something is in the way.
func needShoot(t *testing.T, h *night.House, at int, want ...int) {
	t.Helper()
	l, err := h.Shoot(at)
	if err != nil {
		t.Fatalf("Shoot(%d): %v", at, err)
	}
	var pictures []api.Picture
	for _, n := range want {
		pictures = append(pictures, pic(1, n))
	}
	needPictures(t, l, pictures)
}

func needShut(t *testing.T, h *night.House, at int) {
	t.Helper()
	if l, err := h.Shoot(at); len(l) > 0 || err != api.ErrState {
		t.Fatalf("Shoot(%d) = %v, %v", at, l, err)
	}
}

// houseOf instruments, named by their numbers.
func houseOf(t *testing.T, l ...night.Instrument) *night.House {
	t.Helper()
	h := night.NewHouse()
	for i, x := range l {
		needFit(t, h, strconv.Itoa(i), x, nil)
	}
	return h
}

// P162: kinds, whatever they are made of.
func TestKinds(t *testing.T) {
	for _, c := range []struct {
		x    night.Instrument
		want string
	}{
		{night.Still(pic(1, 5)), "camera"}, {night.Still(api.Picture{}), "camera"},
		{night.Hours(spans(0, 5)), "dome"}, {night.Hours(nil), "dome"}, {night.Hours(spans(9, 5, 5, 5)), "dome"},
		{night.Fixed(1, 2), "pointer"}, {night.Fixed(math.MinInt, math.MaxInt), "pointer"},
		{night.Roof(spans(0, 5), 1, 2), "dome pointer"}, {night.Roof(nil, 0, 0), "dome pointer"},
	} {
		if got := c.x.Kind(); got != c.want {
			t.Errorf("%q, want %q", got, c.want)
		}
	}
}

// P162: what can't be fitted, in its order; it changes nothing.
func TestFitErrors(t *testing.T) {
	camera := night.Still(pic(1, 5))
	h := night.NewHouse()
	none := (*silent)(nil)
	for range 2 {
		for _, x := range []night.Instrument{nil, foreign("camera"), foreign("dome"), foreign(""), wrapped{camera}, &wrapped{camera}, wrapped{}, none, &silent{}} {
			needFit(t, h, "", x, api.ErrName)
			needFit(t, h, "z", x, api.ErrShape)
		}
		needFit(t, h, "", camera, api.ErrName)
	}
	needShoot(t, h, 0)
	needFit(t, h, "z", camera, nil)
	needFit(t, h, "z", camera, api.ErrName)
	needFit(t, h, "z", night.Fixed(-1, 0), api.ErrName)
	needFit(t, h, "z", nil, api.ErrName)
	needShoot(t, h, 0, 5)
	for i := range api.MaxJobs - 1 {
		needFit(t, h, strconv.Itoa(i), night.Fixed(1, 1), nil)
	}
	needFit(t, h, "x", camera, api.ErrBound)
	needFit(t, h, "x", night.Hours(nil), api.ErrBound)
	needFit(t, h, "x", nil, api.ErrShape)
	needFit(t, h, "x", foreign("dome"), api.ErrShape)
	needFit(t, h, "", camera, api.ErrName)
	needFit(t, h, "3", camera, api.ErrName)
	needShoot(t, h, 0, 5)
}

// P162: a house without instruments, and without cameras.
func TestEmptyHouse(t *testing.T) {
	for _, at := range []int{math.MinInt, -1, 0, math.MaxInt} {
		needShoot(t, night.NewHouse(), at)
		needShoot(t, houseOf(t, night.Fixed(1, 0)), at)
		needShut(t, houseOf(t, night.Fixed(0, 9)), at)
		needShut(t, houseOf(t, night.Hours(nil)), at)
		needShoot(t, houseOf(t, night.Still(pic(1, 3))), at, 3)
	}
}

// P162: one thing in the way is enough, whichever it is and wherever it stands.
func TestInTheWay(t *testing.T) {
	camera, open, up := night.Still(pic(1, 8)), night.Hours(spans(0, 9)), night.Fixed(1, 0)
	good := []night.Instrument{camera, open, up, night.Roof(spans(-5, 9), math.MaxInt, 0)}
	needShoot(t, houseOf(t, good...), 5, 8)
	for _, bad := range []night.Instrument{
		night.Hours(spans(6, 9)), night.Hours(spans(0, 5)), night.Hours(nil), night.Fixed(0, 5), night.Fixed(-1, 5), night.Fixed(math.MinInt, 0),
		night.Roof(spans(0, 5), 1, 0), night.Roof(spans(0, 9), 0, 5), night.Roof(nil, -1, 0), night.Roof(spans(6, 9), 1, 1),
	} {
		for place := range len(good) + 1 {
			needShut(t, houseOf(t, slices.Insert(slices.Clone(good), place, bad)...), 5)
		}
	}
}

// P162: a dome is open at the instants of its spans, of whatever spans.
func TestDomes(t *testing.T) {
	dice := rand.New(rand.NewSource(162))
	for range 2000 {
		var l []event.Span
		for range dice.Intn(4) {
			l = append(l, event.Span{From: dice.Intn(20), To: dice.Intn(20)})
		}
		dome := houseOf(t, night.Hours(l), night.Still(pic(1, 1)))
		roof := houseOf(t, night.Roof(l, 1, 1), night.Still(pic(1, 1)))
		for at := -1; at <= 20; at++ {
			open := false
			for _, s := range l {
				open = open || at >= s.From && at <= s.To-1
			}
			for _, h := range []*night.House{dome, roof} {
				if open {
					needShoot(t, h, at, 1)
				} else {
					needShut(t, h, at)
				}
			}
		}
	}
	always := houseOf(t, night.Hours(spans(math.MinInt, math.MaxInt)))
	needShoot(t, always, math.MinInt)
	needShoot(t, always, math.MaxInt-1)
	needShut(t, always, math.MaxInt)
}

// P162: pictures by their names' bytes, in whatever order they were fitted.
func TestPicturesByName(t *testing.T) {
	names := []string{" ", "A", "B", "a", "aa", "ab", "b", "é", "\xff", "\xff\x00"}
	dice := rand.New(rand.NewSource(1620))
	for range 200 {
		h := night.NewHouse()
		for _, i := range dice.Perm(len(names)) {
			needFit(t, h, names[i], night.Still(pic(1, i)), nil)
			if dice.Intn(20) == 0 {
				needFit(t, h, "dome", night.Hours(spans(0, 5)), nil)
				needFit(t, h, names[i], night.Hours(nil), api.ErrName)
				break
			}
		}
		l, err := h.Shoot(2)
		last := -1
		for _, p := range l {
			if p.Counts[0] <= last {
				t.Fatal(l)
			}
			last = p.Counts[0]
		}
		if err != nil {
			t.Fatal(err)
		}
	}
}

// P162: a camera takes always its picture, also one that is none.
func TestStill(t *testing.T) {
	for _, p := range []api.Picture{{}, pic(2, 1, 2, 3, 4), {Wide: -1, High: 300, Counts: []int{-5}}, {Wide: 7}, {Counts: []int{}}} {
		h := houseOf(t, night.Still(p), night.Still(p))
		for at := range 3 {
			l, err := h.Shoot(at)
			if err != nil {
				t.Fatal(err)
			}
			needPictures(t, l, []api.Picture{p, p})
		}
	}
}

// P4: what an instrument is made of may be changed behind it, and so may what it took.
func TestHouseMemory(t *testing.T) {
	p, open := pic(2, 1, 2), spans(0, 9)
	camera := night.Still(p)
	h := houseOf(t, camera, camera, night.Hours(open), night.Roof(open, 1, 1))
	other := houseOf(t, camera)
	p.Counts[0], open[0] = 99, event.Span{}
	want := []api.Picture{pic(2, 1, 2), pic(2, 1, 2)}
	for range 3 {
		l, err := h.Shoot(5)
		if err != nil {
			t.Fatal(err)
		}
		needPictures(t, l, want)
		l[0].Counts[0] = 77
		if l[1].Counts[0] != 1 {
			t.Fatal("two pictures share memory")
		}
		l[1].Counts = append(l[1].Counts[:1], 66)
		l, err = other.Shoot(5)
		if err != nil {
			t.Fatal(err)
		}
		needPictures(t, l, want[:1])
	}
	if !slices.Equal(p.Counts, []int{99, 2}) {
		t.Error(p)
	}
}
