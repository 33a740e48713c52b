package arc_test

import (
	"errors"
	"math/rand"
	"regexp"
	"strings"
	"testing"
	"unicode/utf8"

	"meridian/api"
	"meridian/arc"
)

// reading is one of the two calls that read, and what its texts are made of.
type reading struct {
	name   string
	read   func(string) (int, error)
	prefix *regexp.Regexp // all that a text may begin with, however great its numbers are
	signs  []string       // what texts are tried with
}

func readings() []reading {
	behind := func(minute, second string) string {
		return `([0-9]([0-9](` + minute + `([0-9]([0-9]((\.([0-9]{1,6}` + second + `?)?|` + second + `)?)?)?)?)?)?)?`
	}
	return []reading{
		{"ReadDegrees", arc.ReadDegrees, regexp.MustCompile(`^[-+]?([0-9]{1,6}(°` + behind("′", "″") + `)?)?`),
			[]string{"-", "+", "0", "5", "6", "°", "′", "″", ".", "x", "\xc2", "٣", "\uFFFD"}},
		{"ReadHours", arc.ReadHours, regexp.MustCompile(`^([0-9]{1,2}(h` + behind("m", "s") + `)?)?`),
			[]string{"-", "+", "0", "2", "3", "4", "6", "h", "m", "s", ".", "H", "\xc2"}},
	}
}

var (
	degreesForm = regexp.MustCompile(`^[-+]?[0-9]{1,6}°([0-5][0-9]′([0-5][0-9](\.[0-9]{1,6})?″)?)?$`)
	hoursForm   = regexp.MustCompile(`^([01]?[0-9]|2[0-3])h([0-5][0-9]m([0-5][0-9](\.[0-9]{1,6})?s)?)?$`)
	greatPair   = regexp.MustCompile(`[°′hm][6-9][0-9]`)
	greatHour   = regexp.MustCompile(`^(2[4-9]|[3-9][0-9])`)
)

// wrongAt: the rune that a text is wrong at; -1: it is right.
func (r reading) wrongAt(text string) int {
	form := degreesForm
	if r.name == "ReadHours" {
		form = hoursForm
	}
	if form.MatchString(text) {
		return -1
	}
	good := r.prefix.FindString(text)
	if r.name == "ReadHours" && greatHour.MatchString(good) {
		return 0
	}
	if l := greatPair.FindStringIndex(good); l != nil {
		return utf8.RuneCountInString(good[:l[0]]) + 1
	}
	return utf8.RuneCountInString(good)
}

// check a text against wrongAt.
func (r reading) check(t *testing.T, text string) {
	t.Helper()
	if at := r.wrongAt(text); at >= 0 {
		r.fails(t, text, at)
	} else if _, err := r.read(text); err != nil {
		t.Errorf("%s(%q): %+v, but it is right", r.name, text, err)
	}
}

// fails: the answer is 0 and a Fault with that place.
func (r reading) fails(t *testing.T, text string, at int) {
	t.Helper()
	a, err := r.read(text)
	var f *api.Fault
	if a != 0 || !errors.As(err, &f) || f.At != at || f.Err != api.ErrText {
		t.Errorf("%s(%q) = %d, %+v, want ErrText at %d", r.name, text, a, err, at)
	}
}

func (r reading) answers(t *testing.T, text string, want int) {
	t.Helper()
	if a, err := r.read(text); a != want || err != nil {
		t.Errorf("%s(%q) = %d, %v, want %d", r.name, text, a, err, want)
	}
}

// P21: texts of degrees, with all that may be left out.
func TestReadDegrees(t *testing.T) {
	r := readings()[0]
	for text, want := range map[string]int{
		"0°": 0, "-0°": 0, "+0°": 0, "000000°": 0, "5°": 5 * degree, "-5°": -5 * degree, "+5°": 5 * degree, "012°": 12 * degree,
		"999999°": 999999 * degree, "-999999°59′59.999999″": 1 - 1000000*degree, "5°07′": 5*degree + 7*minute, "5°59′": 5*degree + 59*minute,
		"-0°00′00.000001″": -1, "-5°07′08″": -(5*degree + 7*minute + 8*second), "5°00′59″": 5*degree + 59*second,
		"0°00′00.1″": 100000, "0°00′00.01″": 10000, "0°00′00.001″": 1000, "0°00′00.0001″": 100, "0°00′00.00001″": 10, "0°00′00.123456″": 123456,
		"0°00′00.120″": 120000, "0°00′00.0″": 0, "+360°00′00.000000″": api.Turn, "400°": 400 * degree,
	} {
		r.answers(t, text, want)
	}
}

// P21: texts of degrees that are wrong, and where.
func TestReadDegreesWrong(t *testing.T) {
	r := readings()[0]
	for text, at := range map[string]int{
		"": 0, "-": 1, "+": 1, "--5°": 1, "-+5°": 1, " 5°": 0, "°": 0, "-°": 1, "5": 1, "-5": 2, "123456": 6, "1234567": 6, "-1234567°": 7,
		"5d": 1, "5′": 1, "5°°": 2, "5° ": 2, "5°0": 3, "5°07": 4, "5°07″": 4, "5°070′": 4, "5°7′": 3, "5°-7′": 2, "5°.5″": 2,
		"5°60′": 2, "5°60": 2, "5°60x": 2, "5°6": 3, "5°6x": 3, "5°99′99″": 2, "5°6°": 3, "-5°60′": 3, "12°60′": 3,
		"5°07′0": 6, "5°07′08": 7, "5°07′08′": 7, "5°07′8″": 6, "5°07′60″": 5, "5°07′60": 5, "5°07′6": 6, "5°07′61.5x": 5, "5°07′″": 5, "5°07′.5″": 5,
		"5°07′08.": 8, "5°07′08.″": 8, "5°07′08.1": 9, "5°07′08.123456": 14, "5°07′08.1234567″": 14, "5°07′08.1.″": 9, "5°07′08,1″": 7, "5°07′08.-1″": 8,
		"5°07′08″ ": 8, "5°07′08.5″0": 10, "5°07′08″5°": 8, "5°07'08″": 4, "5º": 1, "٣°": 0, "５°": 0, "1e3°": 1, "5.5°": 1,
		"\xff5°": 0, "5\xff°": 1, "5\xc2": 1, "5\xc2\xc2": 1, "5°\xe2\x80": 2, "5°07\xe2\x80\xb2\xe2\x80": 5, "\xff\xff\xff": 0, "5\uFFFD": 1, "\x005°": 0,
		"5°07′" + strings.Repeat("0", 1000): 7, strings.Repeat("9", 2*api.MaxText): 6,
	} {
		r.fails(t, text, at)
		if got := r.wrongAt(text); got != at {
			t.Errorf("the test itself: %q: %d and %d", text, got, at)
		}
	}
}

// P22: texts of hours, with all that may be left out.
func TestReadHours(t *testing.T) {
	r := readings()[1]
	for text, want := range map[string]int{
		"0h": 0, "00h": 0, "1h": api.Turn / 24, "01h": api.Turn / 24, "9h": 9 * (api.Turn / 24), "19h": 19 * (api.Turn / 24), "23h": 23 * (api.Turn / 24),
		"5h07m": 15 * (5*degree + 7*minute), "05h59m": 15 * (5*degree + 59*minute), "5h07m08s": 15 * (5*degree + 7*minute + 8*second),
		"0h00m59s": 15 * 59 * second, "0h00m00.000001s": 15, "0h00m00.1s": 1500000, "0h00m00.01s": 150000, "0h00m00.000010s": 150, "23h59m59.999999s": api.Turn - 15,
	} {
		r.answers(t, text, want)
	}
}

// P22: texts of hours that are wrong, and where.
func TestReadHoursWrong(t *testing.T) {
	r := readings()[1]
	for text, at := range map[string]int{
		"": 0, "h": 0, "-1h": 0, "+1h": 0, " 1h": 0, "1": 1, "12": 2, "1 h": 1, "1H": 1, "123h": 2, "001h": 2, "5°": 1,
		"24h": 0, "24": 0, "240h": 0, "29h": 0, "30h": 0, "99h": 0, "24x": 0, "24h60m": 0, "3x": 1, "2": 1,
		"1hx": 2, "1h ": 2, "1h0": 3, "1h07": 4, "1h7m": 3, "1h07s": 4, "1h60m": 2, "01h60m": 3, "1h60": 2, "1h6": 3, "1h99m99s": 2,
		"1h07m0": 6, "1h07m08": 7, "1h07m60s": 5, "1h07m60": 5, "1h07m6s": 6, "1h07m08.": 8, "1h07m08.s": 8, "1h07m08.1": 9, "1h07m08.1234567s": 14,
		"1h07m08s ": 8, "1h07m08ss": 8, "1h07m08.5s\n": 10, "\xff1h": 0, "1\xff": 1, "1h07m08.\xff": 8, "1h٣": 2, strings.Repeat("1", 2*api.MaxText): 2,
	} {
		r.fails(t, text, at)
		if got := r.wrongAt(text); got != at {
			t.Errorf("the test itself: %q: %d and %d", text, got, at)
		}
	}
}

// P21, P22: all short texts of the signs that matter.
func TestReadShortTexts(t *testing.T) {
	for _, r := range readings() {
		texts := []string{""}
		for range 5 {
			var longer []string
			for _, text := range texts {
				r.check(t, text)
				for _, sign := range r.signs {
					longer = append(longer, text+sign)
				}
			}
			texts = longer
			if t.Failed() {
				return
			}
		}
	}
}

// P21, P22: texts that were right, changed in a place or two, and every beginning of them.
func TestReadChangedTexts(t *testing.T) {
	dice := rand.New(rand.NewSource(21))
	whole := [][]string{{"-359°59′58.123456″", "+5°07′08″", "000123°00′"}, {"23h59m59.999999s", "5h07m08s", "19h00m"}}
	for i, r := range readings() {
		for _, text := range whole[i] {
			for n := range len(text) + 1 {
				r.check(t, text[:n])
			}
			for range 5000 {
				runes := strings.Split(text, "")
				for range 1 + dice.Intn(2) {
					k := dice.Intn(len(runes))
					runes[k] = []string{"", runes[k] + r.signs[dice.Intn(len(r.signs))], r.signs[dice.Intn(len(r.signs))]}[dice.Intn(3)]
				}
				r.check(t, strings.Join(runes, ""))
			}
		}
	}
}

// P3, P4: each fault is one of its own.
func TestFaultsAreNew(t *testing.T) {
	for _, r := range readings() {
		_, one := r.read("x")
		_, other := r.read("x")
		one.(*api.Fault).At = 99
		if f := other.(*api.Fault); f.At != 0 || !errors.Is(other, api.ErrText) {
			t.Errorf("%s: %+v", r.name, f)
		}
	}
}
