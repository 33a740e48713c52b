package night_test

import (
	"bytes"
	"math"
	"math/rand"
	"slices"
	"testing"

	"meridian/api"
	"meridian/night"
)

func needResume(t *testing.T, l []api.Picture, workers int, done []byte, want []night.Result) {
	t.Helper()
	g, err := night.Resume(l, 3, 1, 1, workers, done)
	if err != nil {
		t.Fatal(err)
	}
	needResults(t, g, want)
	if !bytes.Equal(g.Bytes(), noted(want...).Bytes()) {
		t.Fatal("its bytes are others")
	}
}

func needNoResume(t *testing.T, l []api.Picture, tile, workers int, done []byte, want error) {
	t.Helper()
	if g, err := night.Resume(l, tile, 1, 1, workers, done); g != nil || err != want {
		t.Fatalf("%v, %v, want %v", g, err, want)
	}
}

func worked(t *testing.T, l []api.Picture) []night.Result {
	t.Helper()
	results, err := night.Work(l, 3, 1, 1, 1)
	if err != nil {
		t.Fatal(err)
	}
	return results
}

// P165: broken off anywhere, the same as from the first on.
func TestResume(t *testing.T) {
	dice := rand.New(rand.NewSource(165))
	for range 60 {
		l := thrownPictures(dice, dice.Intn(12))
		want := worked(t, l)
		b := noted(want...).Bytes()
		for cut := range len(b) + 1 {
			needResume(t, l, 1+dice.Intn(api.Workers), b[:cut], want)
		}
		if len(b) > 0 {
			b[dice.Intn(len(b))]++
		}
		needResume(t, l, 3, b, want)
	}
}

// P165: pictures that are done are not looked at, and what the log has of them stays, right or
// wrong.
func TestResumeLooksAtTheRest(t *testing.T) {
	dice := rand.New(rand.NewSource(1650))
	l := thrownPictures(dice, 9)
	want := worked(t, l)
	for done := range len(l) + 1 {
		blind := slices.Clone(l)
		for i := range done {
			blind[i] = api.Picture{Wide: 300}
		}
		odd := slices.Clone(want)
		for i := range done {
			odd[i] = night.Result{Index: i, Spots: -7 * i, Light: math.MinInt + i}
		}
		needResume(t, blind, 4, noted(want[:done]...).Bytes(), want)
		needResume(t, blind, 4, noted(odd[:done]...).Bytes(), odd)
		if done > 0 {
			b := noted(want[:done]...).Bytes()
			needNoResume(t, blind, 3, 4, b[:len(b)-1], api.ErrBound)
			b[len(b)-1]++
			needNoResume(t, blind, 3, 4, b, api.ErrBound)
		}
	}
}

// P165: as long as their Index is their place, and up to the last picture.
func TestResumePlaces(t *testing.T) {
	dice := rand.New(rand.NewSource(1651))
	l := thrownPictures(dice, 5)
	want := worked(t, l)
	for place := range l {
		for _, index := range []int{place - 1, place + 1, -1, 77, math.MinInt, math.MaxInt} {
			// The one that is not in its place, and those behind it, are wrong: they do not count.
			done := slices.Clone(want)
			for i := place; i < len(done); i++ {
				done[i] = night.Result{Index: i, Spots: 1000, Light: 1000}
			}
			done[place].Index = index
			needResume(t, l, 2, noted(done...).Bytes(), want)
		}
	}
	more := append(slices.Clone(want), night.Result{Index: 5}, night.Result{Index: 6})
	for many := range len(l) + 1 {
		needResume(t, l[:many], 2, noted(more...).Bytes(), want[:many])
	}
	needResume(t, nil, 2, nil, nil)
}

// P165: Work's errors of the rest.
func TestResumeErrors(t *testing.T) {
	l := []api.Picture{pic(1, 1), pic(1, 2), pic(1, 3)}
	want := worked(t, l)
	b := noted(want...).Bytes()
	for _, w := range []int{math.MinInt, -1, 0, api.Workers + 1, math.MaxInt} {
		needNoResume(t, l, 3, w, nil, api.ErrShape)
		needNoResume(t, l, 3, w, b, api.ErrShape)
		needNoResume(t, nil, 3, w, nil, api.ErrShape)
		needNoResume(t, []api.Picture{{Wide: 300}}, 3, w, nil, api.ErrShape)
	}
	needNoResume(t, l, 0, 1, b[:2*resultLong], api.ErrShape)
	if g, err := night.Resume(l, 0, -1, 0, 1, b); err != nil || !slices.Equal(g.Results(), want) {
		t.Errorf("nothing was left to look at, but %v", err)
	}
	bad := []api.Picture{{}, {Wide: 300}, pic(1, 1), {}}
	needNoResume(t, bad, 3, 2, nil, api.ErrShape)
	needNoResume(t, bad, 3, 2, b[:resultLong], api.ErrBound)
	needNoResume(t, bad, 3, 2, b[:2*resultLong], api.ErrShape)
	needNoResume(t, bad, 3, 2, b, api.ErrShape)
}

// P4: what is handed over is only read, and not kept.
func TestResumeMemory(t *testing.T) {
	l := []api.Picture{pic(3, 0, 9, 0), pic(3, 7, 0, 7), pic(3, 0, 0, 8)}
	want := worked(t, l)
	done := noted(want[:2]...).Bytes()
	kept, same := slices.Clone(done), clonePictures(l)
	g, err := night.Resume(l, 3, 1, 1, 2, done)
	if err != nil || !bytes.Equal(done, kept) {
		t.Fatal(err, done)
	}
	needPictures(t, l, same)
	clear(done)
	l[2].Counts[2] = 0
	needResults(t, g, want)
	g.Note(night.Result{Index: 3})
	if !slices.Equal(g.Results()[:3], want) || len(g.Results()) != 4 {
		t.Error(g.Results())
	}
}
