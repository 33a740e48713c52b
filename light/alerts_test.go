package light_test

import (
	"math"
	"math/rand"
	"slices"
	"strconv"
	"sync"
	"testing"

	"meridian/api"
	"meridian/light"
)

func needSee(t *testing.T, a *light.Alerts, names []string, workers int, want ...string) {
	t.Helper()
	if got := a.See(names, workers); !slices.Equal(got, want) {
		t.Fatalf("See(%q, %d) = %q, want %q", names, workers, got, want)
	}
}

func needSeen(t *testing.T, a *light.Alerts, want int) {
	t.Helper()
	if n := a.Seen(); n != want {
		t.Fatalf("%d names were seen, want %d", n, want)
	}
}

// P125: each once, in their order.
func TestSee(t *testing.T) {
	var zero light.Alerts
	for _, a := range []*light.Alerts{light.NewAlerts(), &zero} {
		needSeen(t, a, 0)
		needSee(t, a, nil, 3)
		needSee(t, a, []string{}, 3)
		needSeen(t, a, 0)
		needSee(t, a, []string{"b", "a", "b", "c", "a"}, 3, "b", "a", "c")
		needSeen(t, a, 3)
		needSee(t, a, []string{"b", "a", "b", "c", "a"}, 3)
		needSee(t, a, []string{"c", "d", "a", "", "D", "d", ""}, 2, "d", "", "D")
		needSee(t, a, []string{"\xff", "a ", "\xff\x00", "\xff"}, 1, "\xff", "a ", "\xff\x00")
		needSeen(t, a, 9)
		needSeen(t, a, 9)
	}
}

// P125: two of them know nothing of each other.
func TestAlertsApart(t *testing.T) {
	a, b := light.NewAlerts(), light.NewAlerts()
	needSee(t, a, []string{"x"}, 1, "x")
	needSeen(t, b, 0)
	needSee(t, b, []string{"y", "x"}, 1, "y", "x")
	needSeen(t, a, 1)
}

// P125, P1: any number of workers.
func TestSeeWorkers(t *testing.T) {
	for _, w := range []int{math.MinInt, -1, 0, 1, 2, api.Workers - 1, api.Workers, api.Workers + 1, math.MaxInt} {
		a := light.NewAlerts()
		needSee(t, a, nil, w)
		needSee(t, a, []string{"one"}, w, "one")
		needSee(t, a, []string{"two", "one", "three", "two"}, w, "two", "three")
		needSeen(t, a, 3)
	}
}

// someNames of which many come twice.
func someNames(dice *rand.Rand, many, kinds int) []string {
	names := make([]string, many)
	for i := range names {
		names[i] = strconv.Itoa(dice.Intn(kinds))
	}
	return names
}

// P125, P2: what is told hangs on the calls ahead, not on how many look.
func TestSeeOrder(t *testing.T) {
	dice := rand.New(rand.NewSource(125))
	for range 200 {
		a := light.NewAlerts()
		var seen []string
		for range 1 + dice.Intn(6) {
			names := someNames(dice, dice.Intn(200), 1+dice.Intn(300))
			var want []string
			for _, name := range names {
				if !slices.Contains(seen, name) {
					seen, want = append(seen, name), append(want, name)
				}
			}
			needSee(t, a, names, dice.Intn(20), want...)
			needSeen(t, a, len(seen))
		}
	}
}

// P4: names and what is told are the caller's own.
func TestSeeMemory(t *testing.T) {
	a := light.NewAlerts()
	names := []string{"a", "b", "a", "hidden"}
	told := a.See(names[:3], 2)
	if !slices.Equal(names, []string{"a", "b", "a", "hidden"}) {
		t.Error(names)
	}
	told[0], told[1] = "x", "y"
	names[0], names[1] = "z", "w"
	if !slices.Equal(names, []string{"z", "w", "a", "hidden"}) {
		t.Error(names)
	}
	needSeen(t, a, 2)
	needSee(t, a, []string{"z", "y", "x", "w", "b", "a", "hidden"}, 2, "z", "y", "x", "w", "hidden")
	all := []string{"1", "2"}
	told = a.See(all, 1)
	told[0] = "changed"
	if all[0] != "1" {
		t.Error("what is told shares memory with what was asked")
	}
}

// inOrder: names come in told as they come first in asked.
func inOrder(told, asked []string) bool {
	last := -1
	for _, name := range told {
		at := slices.Index(asked, name)
		if at <= last {
			return false
		}
		last = at
	}
	return true
}

// P125: calls side by side, on one that nobody used ahead: each name by one of them alone.
func TestSeeSideBySide(t *testing.T) {
	dice := rand.New(rand.NewSource(1250))
	for range 50 {
		var a light.Alerts
		const calls = 12
		var asked, told [calls][]string
		for i := range asked {
			asked[i] = someNames(dice, 1+dice.Intn(100), 80)
		}
		var all sync.WaitGroup
		for i := range calls {
			all.Go(func() {
				told[i] = a.See(asked[i], 1+i)
				a.Seen()
			})
		}
		all.Wait()
		want := slices.Compact(slices.Sorted(slices.Values(slices.Concat(asked[:]...))))
		got := slices.Sorted(slices.Values(slices.Concat(told[:]...)))
		if !slices.Equal(got, want) {
			t.Fatalf("told were %q, want %q", got, want)
		}
		for i := range told {
			if !inOrder(told[i], asked[i]) {
				t.Fatalf("of %q were told %q", asked[i], told[i])
			}
		}
		needSeen(t, &a, len(want))
	}
}
