package event_test

import (
	"math"
	"math/rand"
	"slices"
	"testing"

	"meridian/api"
	"meridian/event"
)

const farthest = 1 << 60

type mix struct {
	name string
	call func(a, b []event.Span) ([]event.Span, error)
	told func(inA, inB bool) bool
}

func mixes() []mix {
	return []mix{
		{"Both", event.Both, func(a, b bool) bool { return a && b }},
		{"Either", event.Either, func(a, b bool) bool { return a || b }},
		{"But", event.But, func(a, b bool) bool { return a && !b }},
	}
}

func needSpans(t *testing.T, m mix, a, b, want []event.Span) {
	t.Helper()
	if got, err := m.call(a, b); err != nil || !slices.Equal(got, want) {
		t.Fatalf("%s(%v, %v) = %v, %v, want %v", m.name, a, b, got, err, want)
	}
}

// P83: spans, written out: for each two lists what Both, Either and But are.
func TestKnownSpans(t *testing.T) {
	all := []event.Span{{-farthest, farthest}}
	for _, c := range [][5][]event.Span{
		{nil, nil, nil, nil, nil},
		{{{1, 2}}, nil, nil, {{1, 2}}, {{1, 2}}},
		{nil, {{1, 2}}, nil, {{1, 2}}, nil},
		{{{1, 2}}, {{1, 2}}, {{1, 2}}, {{1, 2}}, nil},
		// They touch, they are one apart, they share one.
		{{{0, 5}}, {{5, 9}}, nil, {{0, 9}}, {{0, 5}}},
		{{{5, 9}}, {{0, 5}}, nil, {{0, 9}}, {{5, 9}}},
		{{{0, 5}}, {{6, 9}}, nil, {{0, 5}, {6, 9}}, {{0, 5}}},
		{{{0, 5}}, {{4, 9}}, {{4, 5}}, {{0, 9}}, {{0, 4}}},
		// One fills a gap, or all but an end of it.
		{{{0, 5}, {7, 9}}, {{5, 7}}, nil, {{0, 9}}, {{0, 5}, {7, 9}}},
		{{{0, 5}, {8, 9}}, {{5, 7}}, nil, {{0, 7}, {8, 9}}, {{0, 5}, {8, 9}}},
		{{{0, 5}, {8, 9}}, {{6, 8}}, nil, {{0, 5}, {6, 9}}, {{0, 5}, {8, 9}}},
		{{{5, 7}}, {{0, 5}, {7, 9}}, nil, {{0, 9}}, {{5, 7}}},
		// One lies in the other, at its ends or inside.
		{{{0, 9}}, {{3, 4}, {6, 8}}, {{3, 4}, {6, 8}}, {{0, 9}}, {{0, 3}, {4, 6}, {8, 9}}},
		{{{0, 9}}, {{0, 4}, {6, 9}}, {{0, 4}, {6, 9}}, {{0, 9}}, {{4, 6}}},
		{{{3, 4}, {6, 8}}, {{0, 9}}, {{3, 4}, {6, 8}}, {{0, 9}}, nil},
		{{{0, 9}}, {{0, 9}}, {{0, 9}}, {{0, 9}}, nil},
		{{{0, 2}, {4, 6}, {8, 10}}, {{1, 9}}, {{1, 2}, {4, 6}, {8, 9}}, {{0, 10}}, {{0, 1}, {9, 10}}},
		// As far as they may go.
		{all, nil, nil, all, all},
		{all, all, all, all, nil},
		{all, {{0, 1}}, {{0, 1}}, all, {{-farthest, 0}, {1, farthest}}},
		{{{-farthest, 1 - farthest}}, {{farthest - 1, farthest}}, nil, {{-farthest, 1 - farthest}, {farthest - 1, farthest}}, {{-farthest, 1 - farthest}}},
		{{{0, 5}, {7, 9}, {12, 20}}, {{3, 8}, {9, 12}, {15, 16}}, {{3, 5}, {7, 8}, {15, 16}}, {{0, 20}}, {{0, 3}, {8, 9}, {12, 15}, {16, 20}}},
	} {
		for i, m := range mixes() {
			needSpans(t, m, c[0], c[1], c[2+i])
		}
	}
}

// someSpans: from 0 to that instant or less, near each other.
func someSpans(dice *rand.Rand, most int) []event.Span {
	likely := 1 + dice.Intn(9)
	in := false
	return toldSpans(0, dice.Intn(most+1), func(int) bool {
		if dice.Intn(10) < likely {
			in = !in
		}
		return in
	})
}

func has(l []event.Span, x int) bool {
	for _, s := range l {
		if s.From <= x && x < s.To {
			return true
		}
	}
	return false
}

// P83: instant by instant.
func TestSpans(t *testing.T) {
	dice := rand.New(rand.NewSource(85))
	for range 6000 {
		a, b := someSpans(dice, 40), someSpans(dice, 40)
		for _, m := range mixes() {
			needSpans(t, m, a, b, toldSpans(-1, 42, func(x int) bool { return m.told(has(a, x), has(b, x)) }))
		}
		n := 0
		for x := range 42 {
			if has(a, x) {
				n++
			}
		}
		if got, err := event.Long(a); got != n || err != nil {
			t.Fatalf("Long(%v) = %d, %v, want %d", a, got, err, n)
		}
	}
}

// comb: as many spans as there may be, of one instant each, from there on, each so far
// from the next.
func comb(from, by int) []event.Span {
	l := make([]event.Span, api.MaxList)
	for i := range l {
		l[i] = event.Span{From: from + i*by, To: from + i*by + 1}
	}
	return l
}

// P83: as many spans as there may be; an answer may have more.
func TestManySpans(t *testing.T) {
	a, b := comb(0, 4), comb(2, 4)
	both := mixes()
	needSpans(t, both[0], a, b, nil)
	needSpans(t, both[1], a, b, toldSpans(0, 4*api.MaxList, func(x int) bool { return x%2 == 0 }))
	needSpans(t, both[2], a, b, a)
	needSpans(t, both[2], []event.Span{{-1, 4 * api.MaxList}}, a, toldSpans(-1, 4*api.MaxList, func(x int) bool { return x%4 != 0 }))
	needSpans(t, both[1], comb(0, 2), comb(1, 2), []event.Span{{0, 2 * api.MaxList}})
	if n, err := event.Long(a); n != api.MaxList || err != nil {
		t.Error(n, err)
	}
}

// P83: how many instants, up to the most.
func TestLong(t *testing.T) {
	for _, c := range []struct {
		l    []event.Span
		want int
	}{
		{nil, 0},
		{[]event.Span{}, 0},
		{[]event.Span{{-1, 0}}, 1},
		{[]event.Span{{-5, 3}, {4, 5}, {100, 1000}}, 909},
		{[]event.Span{{-farthest, farthest}}, 1 << 61},
		{[]event.Span{{-farthest, 0}, {1, farthest}}, 1<<61 - 1},
	} {
		if n, err := event.Long(c.l); n != c.want || err != nil {
			t.Errorf("Long(%v) = %d, %v, want %d", c.l, n, err, c.want)
		}
	}
}

// P83, P3: lists that are none, as a and as b, and of Long. The errors are bare.
func TestWrongSpans(t *testing.T) {
	type wrong struct {
		l    []event.Span
		want error
	}
	l := []wrong{
		{make([]event.Span, api.MaxList+1), api.ErrBound},
		{append(comb(0, 2), event.Span{From: 2 * api.MaxList, To: 2*api.MaxList + 1}), api.ErrBound},
	}
	for _, s := range [][]event.Span{
		{{5, 5}}, {{5, 4}}, {{0, 0}}, {{math.MaxInt, math.MinInt}}, {{0, math.MinInt}}, {{math.MaxInt, 0}},
		{{0, 5}, {5, 6}}, {{0, 5}, {4, 6}}, {{0, 5}, {0, 5}}, {{7, 9}, {0, 5}}, {{0, 5}, {7, 9}, {9, 10}}, {{0, 5}, {7, 7}},
		{{0, farthest + 1}}, {{-farthest - 1, 0}}, {{-farthest - 1, -farthest}}, {{farthest, farthest + 1}},
		{{math.MinInt, 0}}, {{0, math.MaxInt}}, {{math.MinInt, math.MaxInt}}, {{0, 1}, {2, 3}, {4, math.MaxInt}},
	} {
		l = append(l, wrong{s, api.ErrShape})
	}
	good := []event.Span{{0, 5}, {7, 9}}
	for _, c := range l {
		for _, m := range mixes() {
			for _, other := range [][]event.Span{nil, good, c.l} {
				if got, err := m.call(c.l, other); len(got) != 0 || err != c.want {
					t.Errorf("%s of %d spans and others = %v, %v, want %v", m.name, len(c.l), got, err, c.want)
				}
				if got, err := m.call(other, c.l); len(got) != 0 || err != c.want {
					t.Errorf("%s of others and %d spans = %v, %v, want %v", m.name, len(c.l), got, err, c.want)
				}
			}
		}
		if n, err := event.Long(c.l); n != 0 || err != c.want {
			t.Errorf("Long of %d spans = %d, %v, want %v", len(c.l), n, err, c.want)
		}
	}
}

// P83: that there are more than MaxList spans is told first, whichever list has them and
// whatever the shape of either.
func TestWrongBothSpans(t *testing.T) {
	shapes := [][]event.Span{{{5, 5}}, {{1, 0}}, {{0, 5}, {5, 6}}, {{0, farthest + 1}}, comb(0, 1)}
	longs := [][]event.Span{
		make([]event.Span, api.MaxList+1),
		append(comb(0, 2), event.Span{From: 2 * api.MaxList, To: 2*api.MaxList + 1}),
	}
	need := func(m mix, a, b []event.Span, want error) {
		if got, err := m.call(a, b); len(got) != 0 || err != want {
			t.Errorf("%s of %d and %d spans: %v, want %v", m.name, len(a), len(b), err, want)
		}
	}
	for _, m := range mixes() {
		for _, shape := range shapes {
			for _, long := range longs {
				need(m, shape, long, api.ErrBound)
				need(m, long, shape, api.ErrBound)
			}
			for _, other := range shapes {
				need(m, shape, other, api.ErrShape)
			}
		}
		for _, long := range longs {
			for _, other := range longs {
				need(m, long, other, api.ErrBound)
			}
		}
	}
}

// P3, P4: lists are only read, nothing behind their length is, and answers are new.
func TestSpansStay(t *testing.T) {
	fill := []event.Span{{0, 5}, {7, 9}, {3, 3}}
	a, b := slices.Clone(fill)[:2], slices.Clone(fill)[:1]
	for _, m := range mixes() {
		for _, other := range [][]event.Span{a, b, nil} {
			first, err := m.call(a, other)
			want := slices.Clone(first)
			if err != nil {
				t.Fatal(err)
			}
			clear(first)
			needSpans(t, m, a, other, want)
			again, _ := m.call(a, other)
			_ = append(again, event.Span{From: 1, To: 1})
		}
	}
	if n, err := event.Long(a); n != 7 || err != nil {
		t.Error(n, err)
	}
	if !slices.Equal(a[:3], fill) || !slices.Equal(b[:3], fill) {
		t.Error(a[:3], b[:3])
	}
}
