package bits_test

import (
	"errors"
	"fmt"
	"math"
	"math/rand"
	"regexp"
	"strings"
	"testing"

	"meridian/api"
	"meridian/bits"
)

var minusZero = math.Copysign(0, -1)

// noNumbers: NaNs of both signs, loud and quiet ones.
var noNumbers = []float64{
	math.NaN(),
	math.Float64frombits(0x7ff0000000000001),
	math.Float64frombits(0x7fffffffffffffff),
	math.Float64frombits(0xfff0000000000001),
	math.Float64frombits(0xfff8000000000000),
	math.Float64frombits(0xffffffffffffffff),
}

// numbers: those at which something turns, and others of every size.
func numbers() []float64 {
	l := []float64{0, 1, 1.5, 0.1, 2, 0x1p-1074, 0x1p-1073, 0x1p-1022 - 0x1p-1074, 0x1p-1022, 1 - 0x1p-53, 1 + 0x1p-52, 0x1p52, 0x1p53, 0x1p970, 0x1p1023, math.MaxFloat64, math.Inf(1)}
	dice := rand.New(rand.NewSource(30))
	for range 300 {
		if x := math.Float64frombits(dice.Uint64()); !math.IsNaN(x) {
			l = append(l, x)
		}
	}
	for _, x := range l {
		l = append(l, -x)
	}
	return l
}

// P30: Same bits, which tells 0 from -0, and no NaN from another one.
func TestSame(t *testing.T) {
	for i, a := range numbers() {
		for j, b := range numbers() {
			if got := bits.Same(a, b); got != (i == j) {
				t.Errorf("Same(%x, %x) = %v", a, b, got)
			}
		}
		for _, no := range noNumbers {
			if bits.Same(a, no) || bits.Same(no, a) {
				t.Errorf("Same of %x and NaN", a)
			}
		}
	}
	for _, a := range noNumbers {
		for _, b := range noNumbers {
			if !bits.Same(a, b) {
				t.Errorf("NaNs %x and %x are not Same", math.Float64bits(a), math.Float64bits(b))
			}
		}
	}
}

// P30: a number's Text, and Read of it with small, great and mixed letters.
func TestTextAndRead(t *testing.T) {
	for _, x := range numbers() {
		want := fmt.Sprintf("%016x", math.Float64bits(x))
		if got := bits.Text(x); got != want {
			t.Errorf("Text(%x) = %q, want %q", x, got, want)
		}
		for _, text := range []string{want, strings.ToUpper(want), want[:8] + strings.ToUpper(want[8:])} {
			if got, err := bits.Read(text); err != nil || math.Float64bits(got) != math.Float64bits(x) {
				t.Errorf("Read(%q) = %x, %v, want %x", text, got, err, x)
			}
		}
	}
	for _, x := range noNumbers {
		if got := bits.Text(x); got != "7ff8000000000000" {
			t.Errorf("Text of the NaN %x = %q", math.Float64bits(x), got)
		}
		text := fmt.Sprintf("%016x", math.Float64bits(x))
		if got, err := bits.Read(text); err != nil || got == got {
			t.Errorf("Read(%q) = %x, %v, want NaN", text, got, err)
		}
	}
}

// P30: some texts, written out.
func TestKnownTexts(t *testing.T) {
	for text, x := range map[string]float64{
		"0000000000000000": 0,
		"8000000000000000": minusZero,
		"3ff0000000000000": 1,
		"c000000000000000": -2,
		"3fb999999999999a": 0.1,
		"0000000000000001": 0x1p-1074,
		"0010000000000000": 0x1p-1022,
		"7fefffffffffffff": math.MaxFloat64,
		"7ff0000000000000": math.Inf(1),
		"fff0000000000000": math.Inf(-1),
	} {
		if got := bits.Text(x); got != text {
			t.Errorf("Text(%x) = %q, want %q", x, got, text)
		}
		if got, err := bits.Read(text); err != nil || !bits.Same(got, x) {
			t.Errorf("Read(%q) = %x, %v, want %x", text, got, err, x)
		}
	}
}

// P30: a text that is wrong is told At its first byte that is.
func TestReadFaults(t *testing.T) {
	const good = "3fF0123456789AbC"
	texts := []string{"", "3", good[:15], good + "0", good + "g", good + good, "0x3ff0000000000000", " " + good, good + " ", good + "\n", "-" + good, "+" + good, "g", "3ffg", "1.5", "NaN", "é", strings.Repeat("0", api.MaxText)}
	for at := range good {
		for c := range 256 {
			texts = append(texts, good[:at]+string([]byte{byte(c)})+good[at+1:])
		}
		texts = append(texts, good[:at], good[:at]+"٣"+good[at:], good[:at]+"-"+good[at:])
	}
	digits := regexp.MustCompile("^[0-9a-fA-F]{0,16}")
	for _, text := range texts {
		at := len(digits.FindString(text))
		got, err := bits.Read(text)
		if at == 16 && len(text) == 16 {
			if err != nil {
				t.Errorf("Read(%q): %v", text, err)
			}
			continue
		}
		var fault *api.Fault
		if !errors.As(err, &fault) || fault.At != at || fault.Err != api.ErrText || math.Float64bits(got) != 0 {
			t.Errorf("Read(%q) = %x, %#v, want ErrText At %d", text, got, err, at)
		}
	}
}
