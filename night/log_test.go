package night_test

import (
	"bytes"
	"encoding/hex"
	"math"
	"math/rand"
	"slices"
	"testing"

	"meridian/night"
)

const resultLong = 28

func noted(l ...night.Result) *night.Log {
	g := night.NewLog()
	for _, r := range l {
		g.Note(r)
	}
	return g
}

func needResults(t *testing.T, g *night.Log, want []night.Result) {
	t.Helper()
	if got := g.Results(); !slices.Equal(got, want) {
		t.Fatalf("%v, want %v", got, want)
	}
}

// needRecover: these results, and a log that goes on from there as one of them alone.
func needRecover(t *testing.T, b []byte, want []night.Result) {
	t.Helper()
	g, n := night.Recover(b)
	if n != len(want) {
		t.Fatalf("%d were recovered, want %d", n, len(want))
	}
	needResults(t, g, want)
	next := night.Result{Index: 4, Spots: -2, Light: 1 << 50}
	g.Note(next)
	if !bytes.Equal(g.Bytes(), noted(append(slices.Clone(want), next)...).Bytes()) {
		t.Fatal("what is noted behind it has another sum")
	}
}

func thrownResults(dice *rand.Rand, many int) []night.Result {
	number := func() int { return int(dice.Uint64()) >> dice.Intn(64) }
	var l []night.Result
	for range many {
		l = append(l, night.Result{Index: number(), Spots: number(), Light: number()})
	}
	return l
}

// P164: logs, written out.
func TestKnownLogs(t *testing.T) {
	for _, k := range []struct {
		l    []night.Result
		want string
	}{
		{nil, ""},
		{[]night.Result{{0, 1, 300}}, "000000000000000001000000000000002c0100000000000074cf2bf1"},
		{[]night.Result{{0, 1, 300}, {1, 0, -1}}, "000000000000000001000000000000002c0100000000000074cf2bf101000000000000000000000000000000ffffffffffffffffa0958420"},
		{[]night.Result{{}, {}}, "0000000000000000000000000000000000000000000000000000000000000000000000000000000000000000000000000000000000000000"},
		{[]night.Result{{5, -7, math.MaxInt}, {math.MinInt, 1 << 40, -1<<32 - 3}, {1, 2, 3}}, "0500000000000000f9ffffffffffffffffffffffffffff7fa175405000000000000000800000000000010000fdfffffffeffffffa8b745710100000000000000020000000000000003000000000000005506ced1"},
	} {
		g := noted(k.l...)
		if got := hex.EncodeToString(g.Bytes()); got != k.want {
			t.Errorf("the bytes of %v are %s, want %s", k.l, got, k.want)
		}
		needResults(t, g, k.l)
		b, err := hex.DecodeString(k.want)
		if err != nil {
			t.Fatal(err)
		}
		needRecover(t, b, k.l)
	}
}

// P164: cut anywhere, as many as are whole.
func TestRecoverCut(t *testing.T) {
	dice := rand.New(rand.NewSource(164))
	for range 100 {
		l := thrownResults(dice, dice.Intn(8))
		b := noted(l...).Bytes()
		if len(b) != resultLong*len(l) {
			t.Fatal(len(b))
		}
		for cut := range len(b) + 1 {
			needRecover(t, b[:cut], l[:cut/resultLong])
		}
		needRecover(t, append(b, make([]byte, dice.Intn(resultLong))...), l)
	}
}

// P164: up to the first one of which a byte is wrong; those behind it do not count, though they
// are right.
func TestRecoverWrongByte(t *testing.T) {
	dice := rand.New(rand.NewSource(1640))
	for range 100 {
		l := thrownResults(dice, 1+dice.Intn(5))
		b := noted(l...).Bytes()
		for i := range b {
			was := b[i]
			b[i] ^= byte(1 + dice.Intn(255))
			needRecover(t, b, l[:i/resultLong])
			b[i] = was
		}
	}
}

// P164: a sum hangs on the one ahead: rows that are right elsewhere are not here.
func TestRecoverOtherRows(t *testing.T) {
	l := []night.Result{{0, 1, 10}, {1, 2, 20}, {2, 3, 30}}
	b := noted(l...).Bytes()
	first, second, third := b[:resultLong], b[resultLong:2*resultLong], b[2*resultLong:]
	needRecover(t, slices.Concat(first, third), l[:1])
	needRecover(t, slices.Concat(second, third), nil)
	needRecover(t, slices.Concat(first, first, second, third), l[:1])
	needRecover(t, slices.Concat(first, third, second), l[:1])
	needRecover(t, slices.Concat(first, second, second), l[:2])
	needRecover(t, slices.Concat(first, second, third, first), l)
	needRecover(t, b[1:], nil)
	needRecover(t, append([]byte{0}, b...), nil)
	needRecover(t, nil, nil)
	needRecover(t, []byte{}, nil)
	needRecover(t, bytes.Repeat([]byte{0xff}, 1000), nil)
	// All zeros have the sum 0: that many results of zeros.
	needRecover(t, make([]byte, 3*resultLong+5), make([]night.Result, 3))
}

// P4: logs know nothing of each other, nor of what is done to what they tell.
func TestLogMemory(t *testing.T) {
	l := []night.Result{{0, 1, 10}, {1, 2, 20}}
	g, other := noted(l...), night.NewLog()
	needResults(t, other, nil)
	b := g.Bytes()
	r, _ := night.Recover(b)
	want := slices.Clone(b)
	b[0], b[resultLong] = 9, 9
	g.Results()[0] = night.Result{}
	_ = append(g.Results()[:1], night.Result{})
	clear(g.Bytes())
	for _, h := range []*night.Log{g, r} {
		needResults(t, h, l)
		if !bytes.Equal(h.Bytes(), want) {
			t.Error("its bytes were changed")
		}
	}
	before := g.Results()
	g.Note(night.Result{Index: 2})
	needResults(t, r, l)
	if !slices.Equal(before, l) {
		t.Error(before)
	}
	whole := slices.Clone(want)
	night.Recover(whole[:resultLong+3])
	if !bytes.Equal(whole, want) {
		t.Error("Recover wrote into what it was given")
	}
}
