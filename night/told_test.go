package night_test

import (
	"fmt"
	"math/rand"
	"slices"
	"strconv"
	"testing"

	"meridian/api"
	"meridian/event"
	"meridian/night"
)

const (
	most     = 1 << 40 // how long a job may be, and how much it may be worth
	farthest = 1 << 60 // an end of a window, in size
)

// short: how a list begins, for what is told of it.
func short(l any) string {
	text := fmt.Sprint(l)
	return text[:min(len(text), 300)]
}

// spans by their ends, one behind the other.
func spans(ends ...int) []event.Span {
	var l []event.Span
	for i := 0; i+1 < len(ends); i += 2 {
		l = append(l, event.Span{From: ends[i], To: ends[i+1]})
	}
	return l
}

func job(name string, long, worth int, ends ...int) night.Job {
	return night.Job{Name: name, Windows: spans(ends...), Long: long, Worth: worth}
}

// made jobs, by a rule that the values written out were reckoned by.
func made(n, seed, windows, apart, longest, worthiest int) []night.Job {
	next := func(below int) int {
		seed = (seed*1103515245 + 12345) % (1 << 31)
		return (seed >> 8) % below
	}
	var l []night.Job
	for i := range n {
		long, worth := 1+next(longest), 1+next(worthiest)
		var ends []int
		at := 0
		for range next(windows + 1) {
			from := at + 1 + next(apart)
			at = from + 1 + next(2*longest)
			ends = append(ends, from, at)
		}
		l = append(l, job(strconv.Itoa(i), long, worth, ends...))
	}
	return l
}

func thrownJobs(dice *rand.Rand, many int) []night.Job {
	return made(many, int(dice.Uint32()>>1), 1+dice.Intn(4), 1+dice.Intn(8), 1+dice.Intn(6), []int{1, 3, 50}[dice.Intn(3)])
}

// toldPlan goes through a plan instant by instant: which job goes on then, and is it in the
// window in which it began?
func toldPlan(l []night.Job, plan []night.Slot) (int, bool) {
	busy := map[int]string{}
	worth := 0
	for i, s := range plan {
		if i > 0 && s.From < plan[i-1].From {
			return 0, false
		}
		if slices.ContainsFunc(plan[:i], func(o night.Slot) bool { return o.Name == s.Name }) {
			return 0, false
		}
		at := slices.IndexFunc(l, func(j night.Job) bool { return j.Name == s.Name })
		if at < 0 {
			return 0, false
		}
		window := windowAt(l[at], s.From)
		for k := range l[at].Long {
			if window < 0 || windowAt(l[at], s.From+k) != window || busy[s.From+k] != "" {
				return 0, false
			}
			busy[s.From+k] = s.Name
		}
		worth += l[at].Worth
	}
	return worth, true
}

func windowAt(j night.Job, at int) int {
	return slices.IndexFunc(j.Windows, func(w event.Span) bool { return w.From <= at && at < w.To })
}

// toldBest goes through a short night instant by instant: which sets of jobs may be done by
// then? Each instant is idle, or a job begins there.
func toldBest(l []night.Job, end int) int {
	by := make([][]bool, end+1)
	for at := range by {
		by[at] = make([]bool, 1<<len(l))
	}
	by[0][0] = true
	best := 0
	for at := range by {
		for set, can := range by[at] {
			if !can {
				continue
			}
			best = max(best, worthOf(l, set))
			if at < end {
				by[at+1][set] = true
			}
			for i, j := range l {
				if set>>i&1 == 0 && at+j.Long <= end && inOneWindow(j, at) {
					by[at+j.Long][set|1<<i] = true
				}
			}
		}
	}
	return best
}

func worthOf(l []night.Job, set int) int {
	n := 0
	for i, j := range l {
		n += (set >> i & 1) * j.Worth
	}
	return n
}

func inOneWindow(j night.Job, from int) bool {
	for k := range j.Long {
		if windowAt(j, from) < 0 || windowAt(j, from+k) != windowAt(j, from) {
			return false
		}
	}
	return true
}

// lastEnd of all windows.
func lastEnd(l []night.Job) int {
	end := 0
	for _, j := range l {
		for _, w := range j.Windows {
			end = max(end, w.To)
		}
	}
	return end
}

// wrongJobs: what is told of them, each wrong by one thing or by several.
func wrongJobs() []wrong {
	good := job("good", 1, 1, 0, 5)
	long := make([]event.Span, 4001)
	for i := range long {
		long[i] = event.Span{From: 2 * i, To: 2*i + 1}
	}
	var l []wrong
	for _, j := range []night.Job{
		job("x", 0, 1), job("x", -1, 1), job("x", most+1, 1), job("x", 1, 0), job("x", 1, -1), job("x", 1, most+1),
		job("x", 1<<62, 1), job("x", -1<<63, 1), job("x", 1, 1<<63-1), job("x", 1, -1<<63),
		job("x", 1, 1, 5, 5), job("x", 1, 1, 6, 5), job("x", 1, 1, 0, 5, 5, 9), job("x", 1, 1, 0, 5, 4, 9), job("x", 1, 1, 6, 9, 0, 5),
		job("x", 1, 1, -farthest-1, 0), job("x", 1, 1, 0, farthest+1), job("x", 1, 1, 0, 1<<63-1), job("x", 1, 1, -1<<63, 1<<63-1),
		{Name: "x", Windows: long, Long: 1, Worth: 1},
	} {
		l = append(l, wrong{[]night.Job{j}, api.ErrShape}, wrong{[]night.Job{good, j}, api.ErrShape}, wrong{[]night.Job{j, good}, api.ErrShape})
		noName := j
		noName.Name = ""
		l = append(l, wrong{[]night.Job{noName}, api.ErrName}, wrong{[]night.Job{j, job("", 1, 1)}, api.ErrName}, wrong{[]night.Job{j, good, j}, api.ErrName})
		l = append(l, wrong{slices.Repeat([]night.Job{j}, 13), api.ErrBound}, wrong{slices.Repeat([]night.Job{noName}, 14), api.ErrBound})
	}
	l = append(l, wrong{[]night.Job{job("", 1, 1)}, api.ErrName}, wrong{[]night.Job{good, good}, api.ErrName}, wrong{[]night.Job{job("y", 1, 1), good, good}, api.ErrName})
	l = append(l, wrong{made(13, 1, 1, 1, 1, 1), api.ErrBound}, wrong{make([]night.Job, 4000), api.ErrBound})
	return l
}

type wrong struct {
	l   []night.Job
	err error
}

// Pictures.

func pic(wide int, counts ...int) api.Picture {
	return api.Picture{Wide: wide, High: len(counts) / wide, Counts: counts}
}

// starry is a picture by a rule that the values written out were reckoned by.
func starry(wide, high, seed, stars int) api.Picture {
	p := api.Picture{Wide: wide, High: high}
	for i := range wide * high {
		x, y := i%wide, i/wide
		n := 100 + 3*(x/5) + (i*i*31+i*seed)%17
		for k := range stars {
			across, down := x-(k*k*37+k*seed+11)%wide, y-(k*k*53+k*29+seed)%high
			far := across*across + down*down
			n += (2000 + 977*k) / (1 + far*far)
		}
		p.Counts = append(p.Counts, min(n, api.MaxCount))
	}
	return p
}

// someSky: pictures of all sizes.
func someSky() []api.Picture {
	return []api.Picture{
		starry(20, 15, 7, 3), starry(64, 48, 21, 9), starry(100, 77, 5, 30), starry(256, 256, 13, 60),
		starry(33, 9, 4, 5), starry(1, 1, 1, 1), starry(17, 40, 8, 6),
	}
}

func thrownPicture(dice *rand.Rand) api.Picture {
	p := api.Picture{Wide: 1 + dice.Intn(9), High: 1 + dice.Intn(9)}
	below := []int{2, 10, 65536}[dice.Intn(3)]
	for range p.Wide * p.High {
		p.Counts = append(p.Counts, dice.Intn(below))
	}
	return p
}

func thrownPictures(dice *rand.Rand, many int) []api.Picture {
	var l []api.Picture
	for range many {
		l = append(l, thrownPicture(dice))
	}
	return l
}

func clonePictures(l []api.Picture) []api.Picture {
	l = slices.Clone(l)
	for i := range l {
		l[i].Counts = slices.Clone(l[i].Counts)
	}
	return l
}

func samePicture(p, q api.Picture) bool {
	return p.Wide == q.Wide && p.High == q.High && slices.Equal(p.Counts, q.Counts)
}

func needPictures(t *testing.T, got, want []api.Picture) {
	t.Helper()
	if !slices.EqualFunc(got, want, samePicture) {
		t.Fatalf("%v, want %v", got, want)
	}
}

func needWork(t *testing.T, l []api.Picture, tile, over, least, workers int, want []night.Result, wantErr error) {
	t.Helper()
	got, err := night.Work(l, tile, over, least, workers)
	if err != wantErr || !slices.Equal(got, want) {
		t.Fatalf("Work of %d pictures by %d = %v, %v, want %v, %v", len(l), workers, got, err, want, wantErr)
	}
}
