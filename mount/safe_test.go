package mount_test

import (
	"math/rand"
	"testing"

	"meridian/api"
	"meridian/mount"
)

// line loses, doubles and delays what goes over it.
type line[T any] struct {
	r   *rand.Rand
	way []T
}

func (l *line[T]) send(x T) {
	for range l.r.Intn(3) {
		l.way = append(l.way, x)
	}
}

// arrive: some of what is on its way, in any order.
func (l *line[T]) arrive() []T {
	var out []T
	for len(l.way) > 0 && l.r.Intn(3) > 0 {
		i := l.r.Intn(len(l.way))
		out = append(out, l.way[i])
		l.way = append(l.way[:i], l.way[i+1:]...)
	}
	return out
}

func safeTick(t *testing.T, p pair) {
	t.Helper()
	a, b := p.m.At()
	p.tick(t)
	x, y := p.m.At()
	for _, c := range []struct {
		l        mount.Limits
		from, to int
	}{{p.w.a, a, x}, {p.w.b, b, y}} {
		if c.to < c.l.Low || c.to > c.l.High || c.to-c.from > c.l.Fast || c.from-c.to > c.l.Fast {
			t.Fatalf("%+v: from %d to %d, behind %v", c.l, c.from, c.to, p.w.taken)
		}
	}
}

// longest: ticks that the way from anywhere to Home takes.
func longest(l mount.Limits) int {
	return (max(l.High-l.Home, l.Home-l.Low) + l.Fast - 1) / l.Fast
}

// P93, P94: a sender and a mount over a line that loses, doubles and delays: no axis is
// ever beyond its limits or too fast, and once no command comes it is Parked. Each
// command is heard of once at most, with what came of it.
func TestSafe(t *testing.T) {
	r := rand.New(rand.NewSource(93))
	for range 1500 {
		size := 1 + r.Intn(60)
		p := opened(t, someLimits(r, size), someLimits(r, size), 1+r.Intn(9))
		s := mount.NewSender()
		there, back := line[mount.Command]{r: r}, line[mount.Reply]{r: r}
		heard := map[int]bool{}
		for range 120 {
			if c, ok := s.Again(); ok && r.Intn(3) > 0 {
				there.send(c)
			} else {
				c := p.someCommand(r, 0)
				there.send(s.Ask(c.Kind, c.A, c.B))
			}
			for _, c := range there.arrive() {
				back.send(p.take(t, c))
			}
			for _, reply := range back.arrive() {
				if s.Hear(reply) {
					if heard[reply.Number] || !p.cameOf(reply) {
						t.Fatalf("heard %+v, behind %v", reply, p.w.taken)
					}
					heard[reply.Number] = true
				}
			}
			safeTick(t, p)
		}
		for range p.w.patience + max(longest(p.w.a), longest(p.w.b), 1) {
			safeTick(t, p)
		}
		if a, b := p.m.At(); p.m.State() != api.Parked || a != p.w.a.Home || b != p.w.b.Home {
			t.Fatalf("at %d, %d, in state %d", a, b, p.m.State())
		}
	}
}

// cameOf: is it what was told of the command of that number when it was taken?
func (p pair) cameOf(reply mount.Reply) bool {
	for i, c := range p.w.taken {
		if c.Number == reply.Number {
			return p.w.errs[i] == reply.Err
		}
	}
	return false
}
