package arc_test

import (
	"fmt"
	"math"
	"math/big"
	"math/rand"
	"testing"

	"meridian/api"
	"meridian/arc"
)

const (
	second = 1000000
	minute = 60 * second
	degree = 60 * minute
)

// sexagesimal: whole ones, minutes, seconds and micros of a number that is not below 0.
func sexagesimal(n *big.Int) (whole, minutes, seconds, micros int64) {
	part := func(by int64) int64 {
		rest := new(big.Int)
		n, rest = new(big.Int).DivMod(n, big.NewInt(by), rest)
		return rest.Int64()
	}
	micros, seconds, minutes = part(1000000), part(60), part(60)
	return n.Int64(), minutes, seconds, micros
}

// P21: the text of an angle.
func TestDegrees(t *testing.T) {
	for a, want := range map[int]string{
		0: "0°00′00.000000″", 1: "0°00′00.000001″", -1: "-0°00′00.000001″", 999999: "0°00′00.999999″", second: "0°00′01.000000″",
		59*second + 999999: "0°00′59.999999″", minute: "0°01′00.000000″", degree - 1: "0°59′59.999999″", degree: "1°00′00.000000″",
		-degree: "-1°00′00.000000″", 12*degree + 3*minute + 4*second + 50: "12°03′04.000050″", api.Turn: "360°00′00.000000″",
		1 - api.Turn: "-359°59′59.999999″", 999999 * degree: "999999°00′00.000000″", 1000000 * degree: "1000000°00′00.000000″",
		api.MaxAngle: "320255973°30′06.846976″", -api.MaxAngle: "-320255973°30′06.846976″",
	} {
		if got := arc.Degrees(a); got != want {
			t.Errorf("Degrees(%d) = %q, want %q", a, got, want)
		}
	}
}

// P21: the texts of angles of every size, and that they are read again.
func TestDegreesThereAndBack(t *testing.T) {
	for _, a := range angles() {
		sign := ""
		if a < 0 {
			sign = "-"
		}
		d, m, s, u := sexagesimal(new(big.Int).Abs(big.NewInt(int64(a))))
		want := fmt.Sprintf("%s%d°%02d′%02d.%06d″", sign, d, m, s, u)
		got := arc.Degrees(a)
		if got != want {
			t.Errorf("Degrees(%d) = %q, want %q", a, got, want)
		}
		if d > 999999 {
			continue
		}
		if back, err := arc.ReadDegrees(got); back != a || err != nil {
			t.Errorf("ReadDegrees(%q) = %d, %v, want %d", got, back, err, a)
		}
	}
}

// P22: the text of an angle in hours, and how it is rounded.
func TestHours(t *testing.T) {
	for a, want := range map[int]string{
		0: "00h00m00.000000s", 7: "00h00m00.000000s", 8: "00h00m00.000001s", 15: "00h00m00.000001s", 22: "00h00m00.000001s", 23: "00h00m00.000002s",
		-7: "00h00m00.000000s", -8: "23h59m59.999999s", -15: "23h59m59.999999s", -22: "23h59m59.999999s", -23: "23h59m59.999998s",
		api.Turn: "00h00m00.000000s", api.Turn - 7: "00h00m00.000000s", api.Turn - 8: "23h59m59.999999s", api.Turn + 8: "00h00m00.000001s",
		15 * degree: "01h00m00.000000s", 15*degree - 7: "01h00m00.000000s", 15*degree - 8: "00h59m59.999999s", api.Turn / 2: "12h00m00.000000s",
		-api.Turn / 4: "18h00m00.000000s", 15 * (9*degree + 8*minute + 7*second + 60): "09h08m07.000060s", 5*api.Turn + 15*second: "00h00m01.000000s",
	} {
		if got := arc.Hours(a); got != want {
			t.Errorf("Hours(%d) = %q, want %q", a, got, want)
		}
	}
}

// nearestTime: microseconds of time of an angle, the nearest, once around being 0.
func nearestTime(a int) int64 {
	norm := big.NewInt(int64(normed(big.NewInt(int64(a)))))
	n := new(big.Int).Div(new(big.Int).Add(new(big.Int).Mul(norm, big.NewInt(2)), big.NewInt(15)), big.NewInt(30))
	return n.Int64() % 86400000000
}

// P22: the hours of angles of every size, and that they are read again.
func TestHoursThereAndBack(t *testing.T) {
	for _, a := range angles() {
		n := nearestTime(a)
		h, m, s, u := sexagesimal(big.NewInt(n))
		want := fmt.Sprintf("%02dh%02dm%02d.%06ds", h, m, s, u)
		got := arc.Hours(a)
		if got != want {
			t.Errorf("Hours(%d) = %q, want %q", a, got, want)
		}
		if back, err := arc.ReadHours(got); back != int(n)*15 || err != nil {
			t.Errorf("ReadHours(%q) = %d, %v, want %d", got, back, err, n*15)
		}
	}
}

// P22: where a text of hours comes from and what it is read as lie near each other.
func TestHoursAreNear(t *testing.T) {
	dice := rand.New(rand.NewSource(22))
	for range 5000 {
		a := dice.Intn(2*api.MaxAngle) - api.MaxAngle
		back, err := arc.ReadHours(arc.Hours(a))
		if err != nil || arc.Apart(a, back) > 7 || back < 0 || back >= api.Turn {
			t.Fatalf("%d is %q, and back %d, %v", a, arc.Hours(a), back, err)
		}
	}
}

// P1: also angles of which nothing is said have some text.
func TestTextsOfTheFarthest(t *testing.T) {
	for _, a := range []int{math.MinInt, math.MaxInt} {
		if arc.Degrees(a) == "" || arc.Hours(a) == "" {
			t.Error(a)
		}
	}
}
