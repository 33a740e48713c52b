package mount_test

import (
	"math"
	"testing"

	"meridian/api"
	"meridian/mount"
)

func silent(t *testing.T, s *mount.Sender) {
	t.Helper()
	if c, ok := s.Again(); ok || c != (mount.Command{}) {
		t.Errorf("%+v, %v", c, ok)
	}
}

func waits(t *testing.T, s *mount.Sender, want mount.Command) {
	t.Helper()
	for range 2 {
		if c, ok := s.Again(); !ok || c != want {
			t.Errorf("%+v, %v; want %+v", c, ok, want)
		}
	}
}

// P94: numbers go up from 1, and a command is as it was asked, whatever it is.
func TestAsk(t *testing.T) {
	s := mount.NewSender()
	for i, c := range []mount.Command{
		{Kind: "slew", A: 3, B: -4}, {Kind: "stop"}, {Kind: "", A: math.MinInt, B: math.MaxInt}, {Kind: "jump\xff", A: 1},
	} {
		c.Number = i + 1
		if got := s.Ask(c.Kind, c.A, c.B); got != c {
			t.Errorf("%+v, want %+v", got, c)
		}
		waits(t, s, c)
	}
}

// P94: ahead of the first command there is nothing to send again, and nothing to hear.
func TestNothingAsked(t *testing.T) {
	s := mount.NewSender()
	silent(t, s)
	for _, n := range []int{0, 1, -1, math.MaxInt, math.MinInt} {
		if s.Hear(mount.Reply{Number: n}) {
			t.Errorf("heard %d", n)
		}
	}
	silent(t, s)
	waits(t, s, s.Ask("hello", 0, 0))
}

// P94: the first reply to the last command is heard, once, whatever is in it.
func TestHear(t *testing.T) {
	s := mount.NewSender()
	first := s.Ask("slew", 1, 2)
	for _, n := range []int{0, 2, -1, math.MaxInt, math.MinInt} {
		if s.Hear(mount.Reply{Number: n}) {
			t.Errorf("heard %d", n)
		}
		waits(t, s, first)
	}
	if !s.Hear(mount.Reply{Number: 1, Err: api.ErrState, State: 99}) {
		t.Error("not heard")
	}
	silent(t, s)
	for range 2 {
		if s.Hear(mount.Reply{Number: 1}) {
			t.Error("heard twice")
		}
		silent(t, s)
	}
}

// P94: a reply to an earlier command is none to the last one, whether it was heard of
// or not.
func TestHearLate(t *testing.T) {
	s := mount.NewSender()
	s.Ask("slew", 1, 2)
	second := s.Ask("stop", 0, 0)
	if s.Hear(mount.Reply{Number: 1}) {
		t.Error("heard of 1")
	}
	waits(t, s, second)
	if !s.Hear(mount.Reply{Number: 2}) {
		t.Error("not heard of 2")
	}
	third := s.Ask("park", 0, 0)
	if third.Number != 3 {
		t.Errorf("%+v", third)
	}
	if s.Hear(mount.Reply{Number: 2}) || s.Hear(mount.Reply{Number: 1}) {
		t.Error("heard late")
	}
	waits(t, s, third)
	if !s.Hear(mount.Reply{Number: 3}) || s.Hear(mount.Reply{Number: 3}) {
		t.Error("of 3")
	}
}

// P2: what one sender asks is nothing to another.
func TestSendersApart(t *testing.T) {
	s, o := mount.NewSender(), mount.NewSender()
	s.Ask("slew", 1, 2)
	s.Ask("stop", 0, 0)
	silent(t, o)
	if c := o.Ask("park", 0, 0); c.Number != 1 {
		t.Errorf("%+v", c)
	}
	if !o.Hear(mount.Reply{Number: 1}) || !s.Hear(mount.Reply{Number: 2}) {
		t.Error("not heard")
	}
}
