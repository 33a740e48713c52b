package frame_test

import (
	"bytes"
	"math"
	"math/rand"
	"slices"
	"testing"

	"meridian/api"
	"meridian/frame"
)

// needParts: the same as of the whole, in whatever pieces it comes.
func needParts(t *testing.T, b []byte, pieces []int) {
	t.Helper()
	p, l, err := toldRead(b)
	before := slices.Clone(pieces)
	q, m, err2 := frame.Parts(b, pieces)
	if err2 != err || !same(p, q) || !slices.Equal(l, m) {
		t.Fatalf("Parts of %d bytes in %v = %d by %d, %d cards, %v, want %d by %d, %d cards, %v", len(b), pieces, q.Wide, q.High, len(m), err2, p.Wide, p.High, len(l), err)
	}
	if !slices.Equal(before, pieces) {
		t.Fatalf("the pieces were changed")
	}
}

func cuts(dice *rand.Rand, long int) []int {
	var l []int
	most := []int{2, 10, 100, 3000, long + 2}[dice.Intn(5)]
	for range dice.Intn(200) {
		l = append(l, dice.Intn(most))
	}
	return l
}

// P104: good and wrong files in pieces of all kinds.
func TestParts(t *testing.T) {
	dice := rand.New(rand.NewSource(104))
	for range 1500 {
		b := toldWrite(small(dice), cardsOf(dice, dice.Intn(40)))
		needParts(t, b, cuts(dice, len(b)))
		switch dice.Intn(4) {
		case 0:
			b = b[:dice.Intn(len(b))]
		case 1:
			b = append(b, make([]byte, 1+dice.Intn(2880))...)
		case 2:
			b[dice.Intn(len(b))] ^= byte(1 + dice.Intn(255))
		case 3:
			b = append(b, b...)
		}
		needParts(t, b, cuts(dice, len(b)))
	}
}

// P104: each place at which a file is cut in two, and pieces of each size.
func TestPartsCuts(t *testing.T) {
	p, l := made(50, 30, 104), numbered(30)
	b := toldWrite(p, l)
	for at := range len(b) + 1 {
		if q, m, err := frame.Parts(b, []int{at}); err != nil || !same(p, q) || !slices.Equal(l, m) {
			t.Fatalf("cut at %d: %d by %d, %d cards, %v", at, q.Wide, q.High, len(m), err)
		}
	}
	for _, size := range []int{1, 2, 3, 7, 79, 80, 81, 2879, 2880, 2881, 5759, 5760, 5761} {
		needParts(t, b, slices.Repeat([]int{size}, len(b)/size+2))
	}
	big := toldWrite(made(256, 256, 104), numbered(100))
	needParts(t, big, slices.Repeat([]int{1}, len(big)))
	needParts(t, big, slices.Repeat([]int{1000}, 100))
}

// P104, P1: pieces below 0, of none, of more than is left, and behind the end.
func TestPartsEdges(t *testing.T) {
	good := toldWrite(pic(2, 1, 2, 3, 4), numbered(2))
	for _, b := range [][]byte{good, good[:len(good)-1], append(bytes.Clone(good), 0), {}, nil, make([]byte, 2880), good[:2880]} {
		for _, pieces := range [][]int{
			nil, {}, {0}, {0, 0, 0}, {-1}, {-1, 5}, {-1, -1}, {5, -1, 5}, {math.MinInt}, {math.MaxInt}, {math.MaxInt, math.MaxInt},
			{5, math.MaxInt, math.MinInt, 5}, {len(b)}, {len(b), 0}, {len(b), 1}, {len(b) - 1}, {len(b) - 1, 1}, {len(b) - 1, 2}, {len(b) + 1},
			{1, 2, 0, 3}, {2880}, {2880, 2880}, {2880, 2880, 2880}, {2879, 2}, slices.Repeat([]int{0}, 10000),
		} {
			needParts(t, b, pieces)
		}
	}
}

// P104, P3: too many bytes are told as such, however they are cut and whatever is wrong ahead.
func TestPartsBound(t *testing.T) {
	for _, pieces := range [][]int{nil, {2880}, {-1}, {0}, {400001}, slices.Repeat([]int{2880}, 200)} {
		p, l, err := frame.Parts(make([]byte, 400001), pieces)
		if !none(p) || len(l) != 0 || err != api.ErrBound {
			t.Error(p, l, err)
		}
		p, l, err = frame.Parts(make([]byte, 400000), pieces)
		if !none(p) || len(l) != 0 || err != api.ErrFile {
			t.Error(p, l, err)
		}
	}
}

// P104, P4: what was read is of new memory, in one piece or in many.
func TestPartsMemory(t *testing.T) {
	want := pic(2, 1, 2, 3, 4)
	for _, pieces := range [][]int{nil, {100, 2780, 9}} {
		b := toldWrite(want, numbered(3))
		p, l, _ := frame.Parts(b, pieces)
		for i := range b {
			b[i] = 'x'
		}
		if !same(p, want) || !slices.Equal(l, numbered(3)) {
			t.Error(p, l)
		}
	}
}
