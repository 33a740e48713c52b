package night_test

import (
	"math"
	"math/rand"
	"runtime"
	"slices"
	"testing"
	"time"

	"meridian/api"
	"meridian/night"
	"meridian/spots"
)

// P163: pictures of stars, written out, by any number of workers.
func TestKnownWork(t *testing.T) {
	l := someSky()
	for _, k := range []struct {
		tile, over, least int
		want              []night.Result
	}{
		{6, 9, 1, []night.Result{{0, 5, 33887}, {1, 73, 214978}, {2, 253, 1990722}, {3, 1747, 7964345}, {4, 5, 75194}, {5, 0, 0}, {6, 8, 108848}}},
		{16, 20, 3, []night.Result{{0, 1, 37220}, {1, 5, 235959}, {2, 16, 2174772}, {3, 54, 8594922}, {4, 3, 82048}, {5, 0, 0}, {6, 2, 118555}}},
		{256, 0, 1, []night.Result{{0, 2, 37888}, {1, 6, 254686}, {2, 46, 2224447}, {3, 27, 9593946}, {4, 3, 84230}, {5, 0, 0}, {6, 1, 121558}}},
		{1, 0, 1, []night.Result{{0, 0, 0}, {1, 0, 0}, {2, 0, 0}, {3, 0, 0}, {4, 0, 0}, {5, 0, 0}, {6, 0, 0}}},
		{32, 40, 4, []night.Result{{0, 1, 36639}, {1, 6, 239662}, {2, 14, 2201780}, {3, 50, 8628911}, {4, 3, 83242}, {5, 0, 0}, {6, 2, 119311}}},
	} {
		for w := 1; w <= api.Workers; w++ {
			needWork(t, l, k.tile, k.over, k.least, w, k.want, nil)
		}
	}
}

// P163, P2: as spots.Find tells of each one by itself, in order.
func TestWorkOneByOne(t *testing.T) {
	dice := rand.New(rand.NewSource(163))
	for range 400 {
		l := thrownPictures(dice, dice.Intn(60))
		tile, over, least := 1+dice.Intn(10), dice.Intn(8), 1+dice.Intn(3)
		var want []night.Result
		for i, p := range l {
			found, err := spots.Find(p, tile, over, least)
			if err != nil {
				t.Fatal(err)
			}
			light := 0
			for _, s := range found {
				light += s.Light
			}
			want = append(want, night.Result{Index: i, Spots: len(found), Light: light})
		}
		needWork(t, l, tile, over, least, 1+dice.Intn(api.Workers), want, nil)
	}
}

// P163: so many workers, told ahead of any picture.
func TestWorkWorkers(t *testing.T) {
	good, bad := []api.Picture{pic(1, 7)}, []api.Picture{{Wide: 300}}
	for _, w := range []int{math.MinInt, -1, 0, api.Workers + 1, math.MaxInt} {
		needWork(t, nil, 5, 5, 5, w, nil, api.ErrShape)
		needWork(t, good, 5, 5, 5, w, nil, api.ErrShape)
		needWork(t, bad, 5, 5, 5, w, nil, api.ErrShape)
	}
	for w := 1; w <= api.Workers; w++ {
		needWork(t, nil, 0, -1, 0, w, nil, nil)
		needWork(t, []api.Picture{}, 0, -1, 0, w, nil, nil)
		needWork(t, good, 1, 0, 1, w, []night.Result{{0, 0, 0}}, nil)
		needWork(t, bad, 5, 5, 5, w, nil, api.ErrBound)
	}
}

// P163: the error of the first picture that has one, whoever comes to it first.
func TestWorkErrors(t *testing.T) {
	bound, shape := api.Picture{Wide: 257, High: 1, Counts: make([]int, 257)}, pic(2, 1, -1)
	big := starry(256, 256, 1, 5)
	// One that takes long, and is wrong only at its end.
	late := big
	late.Counts = slices.Clone(big.Counts)
	late.Counts[len(late.Counts)-1] = -1
	sky := append(someSky(), api.Picture{})
	for w := 1; w <= api.Workers; w++ {
		needWork(t, []api.Picture{bound, shape}, 5, 5, 5, w, nil, api.ErrBound)
		needWork(t, []api.Picture{shape, bound}, 5, 5, 5, w, nil, api.ErrShape)
		needWork(t, []api.Picture{pic(1, 1), bound, pic(1, 1), shape}, 5, 5, 5, w, nil, api.ErrBound)
		needWork(t, []api.Picture{pic(1, 1), pic(1, 1), shape, pic(1, 1), bound, bound}, 5, 5, 5, w, nil, api.ErrShape)
		needWork(t, []api.Picture{big, late, bound}, 5, 5, 5, w, nil, api.ErrShape)
		needWork(t, []api.Picture{big, bound, late}, 5, 5, 5, w, nil, api.ErrBound)
		needWork(t, sky, 5, 5, 5, w, nil, api.ErrShape)
	}
	for _, n := range [][3]int{{0, 0, 1}, {257, 0, 1}, {5, -1, 1}, {5, 0, 0}, {math.MinInt, 0, 1}, {5, math.MinInt, 1}, {5, 0, math.MinInt}} {
		needWork(t, []api.Picture{pic(1, 1)}, n[0], n[1], n[2], 3, nil, api.ErrShape)
		needWork(t, []api.Picture{bound, pic(1, 1)}, n[0], n[1], n[2], 3, nil, api.ErrBound)
		needWork(t, []api.Picture{pic(1, 1), bound}, n[0], n[1], n[2], 3, nil, api.ErrShape)
	}
}

// P163, P1: many more pictures than workers; one picture many times.
func TestWorkMany(t *testing.T) {
	l := slices.Repeat([]api.Picture{pic(3, 0, 0, 50, 0, 0, 0, 9, 0, 0)}, 20000)
	want := make([]night.Result, len(l))
	for i := range want {
		want[i] = night.Result{Index: i, Spots: 2, Light: 59}
	}
	needWork(t, l, 3, 0, 1, api.Workers, want, nil)
}

// P4: pictures are only read.
func TestWorkMemory(t *testing.T) {
	l := someSky()
	same := clonePictures(l)
	first, err := night.Work(l, 16, 20, 3, 4)
	if err != nil {
		t.Fatal(err)
	}
	needPictures(t, l, same)
	kept := slices.Clone(first)
	first[0] = night.Result{}
	l[0] = api.Picture{}
	needWork(t, same, 16, 20, 3, 5, kept, nil)
}

// Who works has ended when a call answers.
func TestWorkersEnd(t *testing.T) {
	l := someSky()[:2]
	before := runtime.NumGoroutine()
	for range 50 {
		night.Work(l, 16, 20, 3, api.Workers)
		night.Work([]api.Picture{{}, pic(1, 1)}, 16, 20, 3, api.Workers)
		night.Work(nil, 16, 20, 3, api.Workers)
	}
	// One that has told that it is done may yet have to leave.
	for range 100 {
		if runtime.NumGoroutine() <= before {
			return
		}
		time.Sleep(10 * time.Millisecond)
	}
	t.Errorf("%d go on, where %d did", runtime.NumGoroutine(), before)
}
