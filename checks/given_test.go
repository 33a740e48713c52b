// Package checks holds what is given against what the document says of it.
package checks

import (
	"crypto/sha256"
	"encoding/hex"
	"errors"
	"os"
	"testing"

	"meridian/api"
	"meridian/plain"
)

// The given packages stay to the byte.
func TestGivenBytes(t *testing.T) {
	for file, want := range map[string]string{
		"../api/api.go":     "97fcc37b23e9af85bb26b2ec08d326887a3953c84b9ff1bb9ede11834cb486fd",
		"../plain/plain.go": "57ad80a51d437b2899c046ec5d85bd0edc1d8054b97c4da918125d930ff26473",
	} {
		b, err := os.ReadFile(file)
		if err != nil {
			t.Fatal(err)
		}
		if sum := sha256.Sum256(b); hex.EncodeToString(sum[:]) != want {
			t.Errorf("%s is not as it was given", file)
		}
	}
}

// P5: the numbers.
func TestConstants(t *testing.T) {
	for _, c := range [][2]int{
		{api.Second, 1000000}, {api.DayLong, 86400000000}, {api.MaxTime, 300000000000000000}, {api.MaxLeaps, 60},
		{api.Turn, 1296000000000}, {api.MaxAngle, 1152921504606846976}, {api.MaxText, 400000}, {api.MaxList, 4000},
		{api.MaxBodies, 12}, {api.MaxPlace, 1048576}, {api.MaxSpeed, 1048576}, {api.MaxMass, 65536},
		{api.MaxSteps, 2000}, {api.MaxSide, 256}, {api.MaxCount, 65535}, {api.MaxCards, 100}, {api.MaxStars, 400},
		{api.MaxLevel, 12}, {api.MaxJobs, 12}, {api.Workers, 16},
		{api.Rise, 1}, {api.Set, 2}, {api.Peak, 3}, {api.Dip, 4},
		{api.Idle, 0}, {api.Slewing, 1}, {api.Tracking, 2}, {api.Parking, 3}, {api.Parked, 4}, {api.Stopped, 5},
	} {
		if c[0] != c[1] {
			t.Errorf("%d, want %d", c[0], c[1])
		}
	}
}

// P5: the errors' texts, and their codes, bare and in a Fault.
func TestErrors(t *testing.T) {
	for i, c := range []struct {
		err  error
		text string
	}{
		{api.ErrText, "text"}, {api.ErrBound, "bound"}, {api.ErrTime, "time"}, {api.ErrTable, "table"}, {api.ErrShape, "shape"},
		{api.ErrLimit, "limit"}, {api.ErrState, "state"}, {api.ErrFile, "file"}, {api.ErrNone, "none"}, {api.ErrName, "name"},
	} {
		if c.err.Error() != "meridian: "+c.text {
			t.Errorf("%q, want %q", c.err, c.text)
		}
		if code, at := plain.Code(c.err); code != i+1 || at != -1 {
			t.Errorf("%v: %d, %d", c.err, code, at)
		}
		if code, at := plain.Code(&api.Fault{At: 7, Err: c.err}); code != i+1 || at != 7 {
			t.Errorf("a Fault of %v: %d, %d", c.err, code, at)
		}
	}
	if code, at := plain.Code(nil); code != 0 || at != -1 {
		t.Error(code, at)
	}
	if code, at := plain.Code(errors.New("another one")); code != -1 || at != -1 {
		t.Error(code, at)
	}
}
