package night_test

import (
	"math"
	"math/rand"
	"slices"
	"testing"

	"meridian/api"
	"meridian/event"
	"meridian/night"
)

// P160: what is wrong with jobs, in its order; all three calls tell it, and nothing else.
func TestWrongJobs(t *testing.T) {
	for _, c := range wrongJobs() {
		if err := night.Valid(c.l); err != c.err {
			t.Errorf("Valid(%s) = %v, want %v", short(c.l), err, c.err)
		}
		for _, plan := range [][]night.Slot{nil, {{Name: "good", From: 0}}, {{Name: "none", From: 0}}} {
			if n, ok, err := night.Check(c.l, plan); n != 0 || ok || err != c.err {
				t.Errorf("Check(%s) = %d, %v, %v, want %v", short(c.l), n, ok, err, c.err)
			}
		}
		if plan, n, err := night.Best(c.l); len(plan) > 0 || n != 0 || err != c.err {
			t.Errorf("Best(%s) = %v, %d, %v, want %v", short(c.l), plan, n, err, c.err)
		}
	}
}

// P160: the edges of what is right.
func TestValid(t *testing.T) {
	many := make([]event.Span, api.MaxList)
	for i := range many {
		many[i] = event.Span{From: 2 * i, To: 2*i + 1}
	}
	for _, l := range [][]night.Job{
		nil, {},
		{job("a", 1, 1)},
		{job("a", most, most, -farthest, farthest)},
		{job("a", 1, 1, 0, 1, 2, 3), job("b", 1, 1, -5, 9)},
		{job("a", 1, 1), job("A", 1, 1), job(" ", 1, 1), job("\xff", 1, 1), job("a\x00", 1, 1)},
		{{Name: "a", Windows: many, Long: 1, Worth: 1}},
		made(api.MaxJobs, 3, 4, 4, 4, 4),
	} {
		if err := night.Valid(l); err != nil {
			t.Errorf("Valid(%s) = %v", short(l), err)
		}
	}
}

// P160: plans, and what is none.
func TestCheck(t *testing.T) {
	l := []night.Job{
		job("a", 6, 5, 0, 10), job("b", 4, 4, 0, 4, 8, 14), job("c", 5, 60, 3, 9), job("d", 1, 100),
		job("e", most, most, -farthest, -farthest+most, farthest-most, farthest), job("f", 3, 7, -9, -7, -6, -3),
	}
	for _, c := range []struct {
		plan []night.Slot
		want int // 0: it is none
	}{
		{[]night.Slot{{"a", 0}}, 5}, {[]night.Slot{{"a", 4}}, 5}, {[]night.Slot{{"a", 5}}, 0}, {[]night.Slot{{"a", -1}}, 0},
		{[]night.Slot{{"b", 0}}, 4}, {[]night.Slot{{"b", 1}}, 0}, {[]night.Slot{{"b", 7}}, 0}, {[]night.Slot{{"b", 8}}, 4},
		{[]night.Slot{{"b", 10}}, 4}, {[]night.Slot{{"b", 11}}, 0}, {[]night.Slot{{"b", 4}}, 0}, {[]night.Slot{{"b", 2}}, 0},
		{[]night.Slot{{"b", 0}, {"a", 4}}, 9}, {[]night.Slot{{"b", 0}, {"a", 3}}, 0}, {[]night.Slot{{"a", 0}, {"b", 10}}, 9},
		{[]night.Slot{{"b", 10}, {"a", 0}}, 0}, {[]night.Slot{{"b", 0}, {"b", 8}}, 0}, {[]night.Slot{{"b", 0}, {"b", 0}}, 0},
		{[]night.Slot{{"b", 0}, {"c", 4}, {"b", 9}}, 0}, {[]night.Slot{{"b", 0}, {"c", 4}}, 64}, {[]night.Slot{{"c", 3}, {"b", 8}}, 64},
		{[]night.Slot{{"c", 4}, {"b", 8}}, 0}, {[]night.Slot{{"d", 0}}, 0}, {[]night.Slot{{"", 0}}, 0}, {[]night.Slot{{"A", 0}}, 0},
		{[]night.Slot{{"a", 0}, {"x", 20}}, 0}, {[]night.Slot{{"x", 20}, {"a", 0}}, 0},
		{[]night.Slot{{"f", -9}}, 0}, {[]night.Slot{{"f", -6}}, 7}, {[]night.Slot{{"f", -6}, {"b", 0}, {"c", 4}}, 71},
		{[]night.Slot{{"e", -farthest}}, most}, {[]night.Slot{{"e", -farthest + 1}}, 0}, {[]night.Slot{{"e", farthest - most}}, most},
		{[]night.Slot{{"e", farthest - most - 1}}, 0}, {[]night.Slot{{"e", -farthest}, {"f", -6}, {"a", 0}}, most + 12},
		{[]night.Slot{{"f", -6}, {"a", 0}, {"e", farthest - most}}, most + 12},
		{[]night.Slot{{"a", math.MaxInt}}, 0}, {[]night.Slot{{"a", math.MinInt}}, 0}, {[]night.Slot{{"e", math.MaxInt}}, 0},
		{[]night.Slot{{"e", math.MinInt}}, 0}, {[]night.Slot{{"e", math.MaxInt - most}}, 0}, {[]night.Slot{{"a", 0}, {"b", math.MaxInt}}, 0},
		{make([]night.Slot, 100000), 0},
	} {
		if n, ok, err := night.Check(l, c.plan); n != c.want || ok != (c.want > 0) || err != nil {
			t.Errorf("Check(%s) = %d, %v, %v, want %d", short(c.plan), n, ok, err, c.want)
		}
	}
	for _, jobs := range [][]night.Job{nil, l} {
		if n, ok, err := night.Check(jobs, nil); n != 0 || !ok || err != nil {
			t.Errorf("no slots are %d, %v, %v", n, ok, err)
		}
	}
	if n, ok, err := night.Check(nil, []night.Slot{{"a", 0}}); n != 0 || ok || err != nil {
		t.Errorf("a slot of no job is %d, %v, %v", n, ok, err)
	}
}

// thrownPlan: slots by chance, or a plan of which one may have been moved or been put twice.
func thrownPlan(dice *rand.Rand, l []night.Job) []night.Slot {
	plan, _, _ := night.Best(l)
	if len(plan) == 0 || dice.Intn(2) == 0 {
		plan = nil
		for range dice.Intn(4) {
			plan = append(plan, night.Slot{Name: string(rune('0' + dice.Intn(5))), From: dice.Intn(lastEnd(l)+2) - 1})
		}
	} else {
		plan[dice.Intn(len(plan))].From += dice.Intn(3) - 1
		if dice.Intn(8) == 0 {
			plan = append(plan, plan[dice.Intn(len(plan))])
		}
	}
	if dice.Intn(8) > 0 {
		slices.SortStableFunc(plan, func(a, b night.Slot) int { return a.From - b.From })
	}
	return plan
}

// P160: plans by chance, instant by instant.
func TestCheckEachInstant(t *testing.T) {
	dice := rand.New(rand.NewSource(160))
	good := 0
	for range 60000 {
		l := thrownJobs(dice, dice.Intn(5))
		plan := thrownPlan(dice, l)
		n, ok, err := night.Check(l, plan)
		if want, wantOK := toldPlan(l, plan); n != want || ok != wantOK || err != nil {
			t.Fatalf("Check(%v, %v) = %d, %v, %v, want %d, %v", l, plan, n, ok, err, want, wantOK)
		}
		if ok && len(plan) > 1 {
			good++
		}
	}
	if good < 1000 {
		t.Errorf("only %d plans of several jobs", good)
	}
}

// needBest: a plan by what the document says of one, worth so much.
func needBest(t *testing.T, l []night.Job, want int) []night.Slot {
	t.Helper()
	plan, n, err := night.Best(l)
	if err != nil || n != want {
		t.Fatalf("Best(%s) = %v, %d, %v, want %d", short(l), plan, n, err, want)
	}
	if worth, ok, err := night.Check(l, plan); worth != want || !ok || err != nil {
		t.Fatalf("Best(%s) = %v, of which Check tells %d, %v, %v", short(l), plan, worth, ok, err)
	}
	return plan
}

// P161: nights, written out.
func TestKnownNights(t *testing.T) {
	for _, k := range []struct{ jobs, seed, windows, apart, longest, worthiest, want int }{
		{12, 1, 3, 20, 10, 9, 20}, {12, 2, 4, 30, 12, 100, 585}, {11, 3, 2, 9, 9, 5, 12}, {12, 4, 5, 15, 20, 1000, 3937},
		{12, 5, 1, 60, 25, 50, 95}, {10, 6, 6, 5, 7, 3, 9}, {12, 7, 3, 200, 40, most, 41653099},
	} {
		l := made(k.jobs, k.seed, k.windows, k.apart, k.longest, k.worthiest)
		plan := needBest(t, l, k.want)
		if n, ok := toldPlan(l, plan); n != k.want || !ok {
			t.Errorf("%v is no plan", plan)
		}
	}
}

// P161: nights in which the first thing that comes to mind is wrong.
func TestBest(t *testing.T) {
	for _, c := range []struct {
		l    []night.Job
		want int
	}{
		{nil, 0},
		{[]night.Job{job("a", 1, 9)}, 0},
		{[]night.Job{job("a", 3, 9, 0, 2, 5, 7)}, 0},
		{[]night.Job{job("a", 3, 9, 0, 2, 5, 8)}, 9},
		{[]night.Job{job("a", 3, 9, 0, 2, 5, 8, 9, 11)}, 9},
		// The worthiest one is in the way of two.
		{[]night.Job{job("a", 6, 10, 0, 10), job("b", 5, 6, 0, 10), job("c", 5, 6, 0, 10)}, 12},
		// The first one by its number must wait, behind those that have no later window.
		{[]night.Job{job("a", 5, 1, 0, 5, 10, 15), job("b", 5, 1, 0, 5)}, 2},
		{[]night.Job{job("a", 4, 1, 0, 12), job("b", 4, 1, 0, 8), job("c", 4, 1, 0, 4)}, 3},
		// Where the third one has its room: ahead of the others, nowhere, behind them.
		{[]night.Job{job("a", 2, 5, 2, 4), job("b", 5, 6, 3, 9), job("c", 2, 2, 0, 9)}, 13},
		{[]night.Job{job("a", 2, 5, 2, 4), job("b", 5, 6, 3, 9), job("c", 2, 2, 3, 9)}, 11},
		{[]night.Job{job("a", 2, 5, 2, 4), job("b", 5, 6, 3, 9), job("c", 2, 2, 3, 11)}, 13},
		// Two that just fit behind each other, and do not by one.
		{[]night.Job{job("a", 5, 1, 0, 10), job("b", 5, 1, 0, 10)}, 2},
		{[]night.Job{job("a", 5, 1, 0, 9), job("b", 5, 1, 0, 9)}, 1},
		{[]night.Job{job("a", most, most, -farthest, farthest), job("b", most, most, -farthest, most-farthest), job("c", most, most, farthest-most, farthest)}, 3 * most},
	} {
		needBest(t, c.l, c.want)
	}
}

// P161: against all that could be done, instant by instant.
func TestBestEachInstant(t *testing.T) {
	dice := rand.New(rand.NewSource(161))
	for range 4000 {
		l := thrownJobs(dice, dice.Intn(6))
		needBest(t, l, toldBest(l, lastEnd(l)))
	}
	for range 20 {
		l := thrownJobs(dice, 8+dice.Intn(5))
		needBest(t, l, toldBest(l, lastEnd(l)))
	}
}

// P161, P1: as many jobs and windows as there may be, all of them in each other's way.
func TestBestOfMany(t *testing.T) {
	l := make([]night.Job, api.MaxJobs)
	for i := range l {
		l[i] = job(string(rune('a'+i)), 10, i+1)
		for k := range api.MaxList - 1 {
			l[i].Windows = append(l[i].Windows, event.Span{From: 20 * k, To: 20*k + 9})
		}
		l[i].Windows = append(l[i].Windows, event.Span{From: 20 * api.MaxList, To: 20*api.MaxList + 115})
	}
	// There is room for eleven: all but the one that is worth least.
	plan := needBest(t, l, 77)
	if len(plan) != 11 {
		t.Error(plan)
	}
	for i := range l {
		l[i] = job(l[i].Name, most, most, -12*most, 0)
	}
	needBest(t, l, 12*most)
}

// P2, P4: jobs and plans are only read; what is answered is the caller's own, and the same again.
func TestPlanMemory(t *testing.T) {
	l := made(12, 2, 4, 30, 12, 100)
	same := made(12, 2, 4, 30, 12, 100)
	plan := needBest(t, l, 585)
	again := needBest(t, l, 585)
	if !slices.Equal(plan, again) {
		t.Errorf("%v, then %v", plan, again)
	}
	kept := slices.Clone(plan)
	if n, ok, err := night.Check(l, plan); n != 585 || !ok || err != nil || !slices.Equal(plan, kept) {
		t.Error(n, ok, err, plan)
	}
	plan[0] = night.Slot{Name: "changed"}
	if !slices.Equal(again, kept) {
		t.Error("two plans share memory")
	}
	for i := range l {
		if l[i].Name != same[i].Name || l[i].Long != same[i].Long || l[i].Worth != same[i].Worth || !slices.Equal(l[i].Windows, same[i].Windows) {
			t.Errorf("%v was changed to %v", same[i], l[i])
		}
	}
}
