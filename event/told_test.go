package event_test

import (
	"math"
	"math/big"
	"math/rand"
	"slices"
	"sort"

	"meridian/api"
	"meridian/event"
)

const great = 1 << 40

// The document's words in fractions of any size: which moments there are, and how the
// height stands at them, ahead of them and behind them.

func whole(n int) *big.Rat { return new(big.Rat).SetInt64(int64(n)) }

func floor(r *big.Rat) int {
	return int(new(big.Int).Div(r.Num(), r.Denom()).Int64())
}

func ceil(r *big.Rat) int {
	return -floor(new(big.Rat).Neg(r))
}

// toldSteps: how many steps behind the first instant a moment is.
func toldSteps(t event.Track, m *big.Rat) *big.Rat {
	past := new(big.Rat).Sub(m, whole(t.From))
	return past.Quo(past, whole(t.Step))
}

func toldHeight(t event.Track, m *big.Rat) *big.Rat {
	steps := toldSteps(t, m)
	i := floor(steps)
	if i == len(t.L)-1 {
		return whole(t.L[i])
	}
	gain := whole(t.L[i+1] - t.L[i])
	gain.Mul(gain, steps.Sub(steps, whole(i)))
	return gain.Add(gain, whole(t.L[i]))
}

func toldAbove(t event.Track, m *big.Rat, level int) bool {
	return toldHeight(t, m).Cmp(whole(level)) > 0
}

// toldMoments: all between which the height cannot come to the level.
func toldMoments(t event.Track, level int) []*big.Rat {
	var l []*big.Rat
	for i, a := range t.L {
		l = append(l, whole(t.From+i*t.Step))
		if i+1 == len(t.L) {
			break
		}
		if b := t.L[i+1]; a < level && level < b || b < level && level < a {
			past := big.NewRat(int64(level-a), int64(b-a))
			past.Mul(past, whole(t.Step))
			l = append(l, past.Add(past, l[len(l)-1]))
		}
	}
	return l
}

func middle(a, b *big.Rat) *big.Rat {
	m := new(big.Rat).Add(a, b)
	return m.Mul(m, big.NewRat(1, 2))
}

func toldEvents(t event.Track, level int) []event.Event {
	var l []event.Event
	ms := toldMoments(t, level)
	for i, m := range ms {
		if toldAbove(t, m, level) {
			continue
		}
		index := floor(toldSteps(t, m))
		if i+1 < len(ms) && toldAbove(t, middle(m, ms[i+1]), level) {
			l = append(l, event.Event{Kind: api.Rise, At: floor(m), Index: index})
		}
		if i > 0 && toldAbove(t, middle(ms[i-1], m), level) {
			l = append(l, event.Event{Kind: api.Set, At: ceil(m), Index: index})
		}
	}
	l = append(l, toldTurns(t, level)...)
	sort.Slice(l, func(i, j int) bool {
		a, b := l[i], l[j]
		if a.At != b.At {
			return a.At < b.At
		}
		if a.Index != b.Index {
			return a.Index < b.Index
		}
		return a.Kind < b.Kind
	})
	return l
}

// toldTurns: each row is looked at from each of its heights to both sides.
func toldTurns(t event.Track, level int) []event.Event {
	var l []event.Event
	for i, h := range t.L {
		left, right := i-1, i+1
		for right < len(t.L) && t.L[right] == h {
			right++
		}
		if left < 0 || right == len(t.L) {
			continue
		}
		if t.L[left] < h && t.L[right] < h && h > level {
			l = append(l, event.Event{Kind: api.Peak, At: t.From + i*t.Step, Index: i})
		}
		if t.L[left] > h && t.L[right] > h && h <= level {
			l = append(l, event.Event{Kind: api.Dip, At: t.From + i*t.Step, Index: i})
		}
	}
	return l
}

func toldFirst(t event.Track, level, from int) (event.Event, bool) {
	for _, e := range toldEvents(t, level) {
		if (e.Kind == api.Rise || e.Kind == api.Set) && e.At >= from {
			return e, true
		}
	}
	return event.Event{}, false
}

// toldSpans: instants from one to behind another, put together, by asking of each one.
func toldSpans(from, behind int, is func(x int) bool) []event.Span {
	var l []event.Span
	for x := from; x < behind; x++ {
		if !is(x) {
			continue
		}
		if n := len(l); n > 0 && l[n-1].To == x {
			l[n-1].To++
		} else {
			l = append(l, event.Span{From: x, To: x + 1})
		}
	}
	return l
}

// small tracks, in which heights are often equal to each other and to a level.
func small(dice *rand.Rand) event.Track {
	t := event.Track{From: dice.Intn(101) - 50, Step: 1 + dice.Intn(1<<dice.Intn(5)), L: make([]int, 2+dice.Intn(14))}
	size := 1 + dice.Intn(1<<dice.Intn(6))
	for i := range t.L {
		t.L[i] = dice.Intn(2*size+1) - size
		if i > 0 && dice.Intn(4) == 0 {
			t.L[i] = t.L[i-1]
		}
	}
	return t
}

// wide tracks: of heights and steps of any size.
func wide(dice *rand.Rand) event.Track {
	t := event.Track{L: make([]int, 2+dice.Intn(9))}
	t.From = sized(dice, api.MaxTime)
	t.Step = 1 + (api.MaxTime-t.From)/(len(t.L)-1)>>dice.Intn(50)
	t.Step = max(1, min(t.Step, (api.MaxTime-t.From)/(len(t.L)-1)))
	for i := range t.L {
		t.L[i] = sized(dice, great)
	}
	return t
}

// sized: a number of any size up to that one.
func sized(dice *rand.Rand, most int) int {
	m := most >> dice.Intn(30)
	return dice.Intn(2*m+1) - m
}

// levelOf a track: often one of its heights.
func levelOf(dice *rand.Rand, t event.Track) int {
	if dice.Intn(2) == 0 {
		return t.L[dice.Intn(len(t.L))]
	}
	low, high := slices.Min(t.L), slices.Max(t.L)
	return max(-great, min(great, low-1+dice.Intn(high-low+3)))
}

// known: tracks, levels, and what there is of them, reckoned apart from the program.
type known struct {
	t       event.Track
	level   int
	events  []event.Event
	windows []event.Span
}

func knowns() []known {
	const late = api.MaxTime
	hills := []int{4, 9, 9, 2, 2, 2, 6, -3, -3, 5, 5, 1}
	return []known{
		{event.Track{Step: 10, L: []int{-5, 5}}, 0, []event.Event{{1, 5, 0}}, []event.Span{{6, 11}}},
		{event.Track{From: -7, Step: 10, L: []int{-1, 2, -3}}, 0, []event.Event{{1, -4, 0}, {3, 3, 1}, {2, 7, 1}}, []event.Span{{-3, 7}}},
		{event.Track{From: -late, Step: 2 * late, L: []int{-great, great - 1}}, 0, []event.Event{{1, 136424, 0}}, []event.Span{{136425, late + 1}}},
		{event.Track{From: -late, Step: 2 * late, L: []int{great, -great}}, great - 1, []event.Event{{2, -299999999999727151, 0}}, []event.Span{{-late, -299999999999727151}}},
		{event.Track{From: -late, Step: 2 * late, L: []int{great, -great + 1}}, -great + 1, []event.Event{{2, late, 1}}, []event.Span{{-late, late}}},
		{
			event.Track{From: -late, Step: late / 3, L: []int{3, -7, great, great, -great, 0, 1}}, 0,
			[]event.Event{{2, -270000000000000000, 0}, {4, -200000000000000000, 1}, {1, -199999999999363354, 1}, {3, -100000000000000000, 2}, {2, 50000000000000000, 3}, {4, 100000000000000000, 4}, {1, 200000000000000000, 5}},
			[]event.Span{{-late, -270000000000000000}, {-199999999999363353, 50000000000000000}, {200000000000000001, late + 1}},
		},
		{
			event.Track{From: -1000, Step: 7, L: hills}, 4,
			[]event.Event{{1, -1000, 0}, {3, -993, 1}, {2, -981, 2}, {4, -979, 3}, {1, -962, 5}, {3, -958, 6}, {2, -956, 6}, {4, -951, 7}, {1, -938, 8}, {3, -937, 9}, {2, -928, 10}},
			[]event.Span{{-999, -981}, {-961, -956}, {-937, -928}},
		},
		{
			event.Track{From: -1000, Step: 7, L: hills}, 5,
			[]event.Event{{1, -999, 0}, {3, -993, 1}, {2, -982, 2}, {4, -979, 3}, {1, -960, 5}, {3, -958, 6}, {2, -957, 6}, {4, -951, 7}},
			[]event.Span{{-998, -982}, {-959, -957}},
		},
		{
			event.Track{From: -3, Step: 1, L: []int{1, 0, 1, -1, 2, -2, 3, 3, -3, -3, 4, 0, 0, 0, -1, 0, 0, 2}}, 0,
			[]event.Event{{1, -2, 1}, {2, -2, 1}, {4, -2, 1}, {3, -1, 2}, {2, 0, 2}, {1, 0, 3}, {4, 0, 3}, {3, 1, 4}, {2, 2, 4}, {1, 2, 5}, {4, 2, 5}, {3, 3, 6}, {2, 5, 7}, {4, 5, 8}, {1, 6, 9}, {3, 7, 10}, {2, 8, 11}, {4, 11, 14}, {1, 13, 16}},
			[]event.Span{{-3, -2}, {-1, 0}, {1, 2}, {3, 5}, {7, 8}, {14, 15}},
		},
		{
			event.Track{From: 123456789, Step: 86400000000, L: []int{-123456789012, 987654321098, -555555555555, -555555555556, 777777777777, 777777777776, -1}}, 123,
			[]event.Event{{1, 9723456720, 0}, {3, 86523456789, 1}, {2, 141819456785, 1}, {4, 259323456789, 3}, {1, 295323456797, 3}, {3, 345723456789, 4}, {2, 518523456776, 5}},
			[]event.Span{{9723456721, 141819456785}, {295323456798, 518523456776}},
		},
		{
			event.Track{From: -13, Step: 5, L: []int{0, 0, 0, 7, 0, 0, -7, 0, 0, 7, 7}}, 0,
			[]event.Event{{1, -3, 2}, {3, 2, 3}, {2, 7, 4}, {4, 17, 6}, {1, 27, 8}},
			[]event.Span{{-2, 7}, {28, 38}},
		},
	}
}

// wrongTracks and the error that they are told for: the first one named, where several
// things are wrong.
func wrongTracks() []wrongTrack {
	none := api.MaxTime + 1
	l := []wrongTrack{
		{event.Track{}, api.ErrBound},
		{event.Track{Step: 1, L: []int{1}}, api.ErrBound},
		{event.Track{Step: 1, L: make([]int, api.MaxList+1)}, api.ErrBound},
		{event.Track{Step: -1, From: none, L: []int{math.MinInt}}, api.ErrBound},
		{event.Track{From: math.MinInt, L: slices.Repeat([]int{math.MaxInt}, api.MaxList+1)}, api.ErrBound},
		{event.Track{L: []int{1, 1}}, api.ErrTime},
		{event.Track{Step: -1, L: []int{1, 1}}, api.ErrTime},
		{event.Track{Step: math.MinInt, L: []int{1, 1}}, api.ErrTime},
		{event.Track{From: api.MaxTime, Step: -1, L: []int{1, 1}}, api.ErrTime},
		{event.Track{From: none, Step: 1, L: []int{1, 1}}, api.ErrTime},
		{event.Track{From: -none, Step: 1, L: []int{1, 1}}, api.ErrTime},
		{event.Track{From: -none, Step: none, L: []int{1, 1}}, api.ErrTime},
		{event.Track{From: math.MaxInt, Step: 1, L: []int{1, 1}}, api.ErrTime},
		{event.Track{From: math.MinInt, Step: 1, L: []int{1, 1}}, api.ErrTime},
		{event.Track{From: math.MinInt, Step: math.MaxInt, L: []int{1, 1}}, api.ErrTime},
		{event.Track{From: api.MaxTime, Step: 1, L: []int{1, 1}}, api.ErrTime},
		{event.Track{From: api.MaxTime - 1, Step: 1, L: []int{1, 1, 1}}, api.ErrTime},
		{event.Track{Step: none, L: []int{1, 1}}, api.ErrTime},
		{event.Track{Step: api.MaxTime/2 + 1, L: []int{1, 1, 1}}, api.ErrTime},
		{event.Track{From: -api.MaxTime, Step: 2*api.MaxTime + 1, L: []int{1, 1}}, api.ErrTime},
		{event.Track{Step: math.MaxInt, L: []int{1, 1}}, api.ErrTime},
		{event.Track{Step: 1 << 62, L: make([]int, 9)}, api.ErrTime},
		{event.Track{Step: 1 << 61, L: make([]int, 9)}, api.ErrTime},
		{event.Track{L: []int{math.MaxInt, 1}}, api.ErrTime},
		{event.Track{Step: none, L: []int{1, math.MinInt}}, api.ErrTime},
	}
	for _, h := range tooHigh() {
		l = append(l,
			wrongTrack{event.Track{Step: 1, L: []int{h, 1}}, api.ErrShape},
			wrongTrack{event.Track{Step: 1, L: []int{1, 1, h}}, api.ErrShape},
			wrongTrack{event.Track{Step: 1, L: []int{1, h, -h, 1}}, api.ErrShape})
	}
	return l
}

type wrongTrack struct {
	t    event.Track
	want error
}

// tooHigh: heights and levels of more than their bound in size.
func tooHigh() []int {
	return []int{great + 1, -great - 1, 1 << 62, math.MaxInt, math.MinInt, math.MinInt + 1}
}
