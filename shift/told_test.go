package shift_test

import (
	"crypto/sha256"
	"fmt"
	"math"
	"math/big"
	"math/rand"
	"slices"
	"strings"
	"testing"

	"meridian/api"
	"meridian/bits"
	"meridian/shift"
)

var (
	minusZero = math.Copysign(0, -1)
	up        = math.Inf(1)
	no        = math.NaN()
)

func sum256(text string) string { return fmt.Sprintf("%x", sha256.Sum256([]byte(text))) }

// textOf waves: the bits of all parts.
func textOf(l []complex128) string {
	var words []string
	for _, x := range l {
		words = append(words, bits.Text(real(x))+bits.Text(imag(x)))
	}
	return strings.Join(words, " ")
}

func sameWave(x, y complex128) bool {
	return bits.Same(real(x), real(y)) && bits.Same(imag(x), imag(y))
}

func sameWaves(l, m []complex128) bool { return slices.EqualFunc(l, m, sameWave) }

// madeWaves by a rule that the values written out were reckoned by.
func madeWaves(n, seed int) []complex128 {
	tens := [5]float64{0.01, 0.1, 1, 10, 100}
	var l []complex128
	for i := range n {
		across := float64((i*i*37+i*seed)%201-100) / 8
		part := float64((i*53+seed*seed)%97-48) / 16
		l = append(l, complex(across, float64(part*tens[i%5])))
	}
	return l
}

// madeRow by a rule that the values written out were reckoned by.
func madeRow(n, seed, most int) []int {
	var l []int
	for i := range n {
		l = append(l, (i*i*7919+i*seed*104729+seed*seed)%(2*most+1)-most)
	}
	return l
}

// starry is a picture by a rule that the values written out were reckoned by.
func starry(wide, high, seed int) api.Picture {
	p := api.Picture{Wide: wide, High: high}
	for i := range wide * high {
		x, y := i%wide, i/wide
		n := 10 + (i*i*31+i*seed)%17
		for k := range 4 {
			across, down := x-(k*k*37+k*seed+11)%wide, y-(k*k*53+k*29+seed)%high
			far := across*across + down*down
			n += (2000 + 977*k) / (1 + far*far)
		}
		p.Counts = append(p.Counts, min(n, 65535))
	}
	return p
}

// pair is a complex number as two numbers, each step on which is rounded by itself.
type pair struct{ across, up float64 }

func (p pair) times(q pair) pair {
	ac, bd, ad, bc := p.across*q.across, p.up*q.up, p.across*q.up, p.up*q.across
	return pair{float64(ac) - float64(bd), float64(ad) + float64(bc)}
}

func (p pair) plus(q pair) pair { return pair{p.across + q.across, p.up + q.up} }

func (p pair) less(q pair) pair { return pair{p.across - q.across, p.up - q.up} }

func (p pair) over(n int) pair { return pair{p.across / float64(n), p.up / float64(n)} }

func (p pair) wave() complex128 { return complex(p.across, p.up) }

func pairOf(x complex128) pair { return pair{real(x), imag(x)} }

// turnBy k of n parts, in numbers of any size.
func turnBy(k, n int, back bool) pair {
	parts := new(big.Int).Mul(big.NewInt(api.Turn), big.NewInt(int64(k)))
	g := int(parts.Div(parts, big.NewInt(int64(n))).Int64())
	if back {
		return pair{bits.Cos(g), bits.Sin(g)}
	}
	return pair{bits.Cos(g), -bits.Sin(g)}
}

func toldWaves(l []complex128, back bool) []complex128 {
	n := len(l)
	var waves []complex128
	for k := range n {
		var x pair
		for j := range n {
			x = x.plus(pairOf(l[j]).times(turnBy(j*k%n, n, back)))
		}
		if back {
			x = x.over(n)
		}
		waves = append(waves, x.wave())
	}
	return waves
}

// turnedOver are the lowest so many bits of a number, the last one first.
func turnedOver(i, many int) int {
	turned := 0
	for range many {
		turned, i = turned<<1|i&1, i>>1
	}
	return turned
}

// toldFast goes from the smallest rows to the whole one, all of one length at a time.
func toldFast(l []complex128, back bool) []complex128 {
	n, many := len(l), 0
	for 1<<many < n {
		many++
	}
	x := make([]pair, n)
	for i := range x {
		x[i] = pairOf(l[turnedOver(i, many)])
	}
	for half := 1; half < n; half *= 2 {
		for from := 0; from < n; from += 2 * half {
			for k := from; k < from+half; k++ {
				e, t := x[k], x[k+half].times(turnBy(k-from, 2*half, back))
				x[k], x[k+half] = e.plus(t), e.less(t)
			}
		}
	}
	var waves []complex128
	for _, p := range x {
		if back {
			p = p.over(n)
		}
		waves = append(waves, p.wave())
	}
	return waves
}

// toldCross in numbers of any size; each product goes to the shift that it is of.
func toldCross(a, b []int) []int {
	n := len(a)
	sums := make([]*big.Int, n)
	for s := range sums {
		sums[s] = new(big.Int)
	}
	for i, x := range a {
		for j, y := range b {
			s := sums[(j-i+n)%n]
			s.Add(s, new(big.Int).Mul(big.NewInt(int64(x)), big.NewInt(int64(y))))
		}
	}
	var l []int
	for _, s := range sums {
		l = append(l, int(s.Int64()))
	}
	return l
}

// toldBest: the first of the greatest, looked for from the end.
func toldBest(l []int) int {
	best := len(l) - 1
	for i := best; i >= 0; i-- {
		if l[i] >= l[best] {
			best = i
		}
	}
	return best
}

func toldGuess(a, b []int) int {
	wavesOf := func(l []int) []complex128 {
		var waves []complex128
		for _, n := range l {
			waves = append(waves, complex(float64(n), 0))
		}
		return toldFast(waves, false)
	}
	first, second := wavesOf(a), wavesOf(b)
	var c []complex128
	for k := range first {
		p := pairOf(first[k])
		c = append(c, pair{p.across, -p.up}.times(pairOf(second[k])).wave())
	}
	c = toldFast(c, true)
	best := len(c) - 1
	for s := best; s >= 0; s-- {
		if real(c[s]) >= real(c[best]) {
			best = s
		}
	}
	return best
}

// toldMoved gives the product of each two pixels to the move that they are of.
func toldMoved(a, b api.Picture, most int) (dx, dy, sum int) {
	side := 2*most + 1
	sums := make([]int, side*side) // dy by dy
	for i, n := range a.Counts {
		for k, m := range b.Counts {
			across, down := k%b.Wide-i%a.Wide, k/b.Wide-i/a.Wide
			if max(across, -across, down, -down) <= most {
				sums[(down+most)*side+across+most] += n * m
			}
		}
	}
	best := toldBest(sums)
	return best%side - most, best/side - most, sums[best]
}

func needWaves(t *testing.T, l []complex128, back bool, want []complex128) {
	t.Helper()
	if got, err := shift.Waves(l, back); err != nil || !sameWaves(got, want) {
		t.Fatalf("Waves(%v, %v) = %v, %v, want %v", l, back, got, err, want)
	}
}

func needFast(t *testing.T, l []complex128, back bool, want []complex128) {
	t.Helper()
	if got, err := shift.Fast(l, back); err != nil || !sameWaves(got, want) {
		t.Fatalf("Fast(%v, %v) = %v, %v, want %v", l, back, got, err, want)
	}
}

// needRows: all that is told of two rows, but a guess.
func needRows(t *testing.T, a, b, want []int) {
	t.Helper()
	if l, err := shift.Cross(a, b); err != nil || !slices.Equal(l, want) {
		t.Fatalf("Cross(%v, %v) = %v, %v, want %v", a, b, l, err, want)
	}
	best := toldBest(want)
	if s, sum, err := shift.Best(a, b); err != nil || s != best || sum != want[best] {
		t.Fatalf("Best(%v, %v) = %d, %d, %v, want %d, %d", a, b, s, sum, err, best, want[best])
	}
	for s, sum := range want {
		if ok, err := shift.Proved(a, b, s); err != nil || ok != (sum == want[best]) {
			t.Fatalf("Proved(%v, %v, %d) = %v, %v", a, b, s, ok, err)
		}
	}
	for _, s := range []int{math.MinInt, best - len(a), -1, len(a), best + len(a), math.MaxInt} {
		if ok, err := shift.Proved(a, b, s); (s < 0 || s >= len(a)) && (err != nil || ok) {
			t.Fatalf("Proved(%v, %v, %d) = %v, %v", a, b, s, ok, err)
		}
	}
}

func needGuess(t *testing.T, a, b []int, want int) {
	t.Helper()
	if s, err := shift.Guess(a, b); err != nil || s != want {
		t.Fatalf("Guess(%v, %v) = %d, %v, want %d", a, b, s, err, want)
	}
}

func needMoved(t *testing.T, a, b api.Picture, most, dx, dy, sum int, want error) {
	t.Helper()
	if x, y, n, err := shift.Moved(a, b, most); err != want || x != dx || y != dy || n != sum {
		t.Fatalf("Moved of %d by %d %v, %d by %d %v, %d = %d, %d, %d, %v, want %d, %d, %d, %v",
			a.Wide, a.High, a.Counts, b.Wide, b.High, b.Counts, most, x, y, n, err, dx, dy, sum, want)
	}
}

func pic(wide int, counts ...int) api.Picture {
	return api.Picture{Wide: wide, High: len(counts) / wide, Counts: counts}
}

// even is a picture of one count.
func even(wide, high, count int) api.Picture {
	return api.Picture{Wide: wide, High: high, Counts: slices.Repeat([]int{count}, wide*high)}
}

// thrownRow of numbers of one size or of all.
func thrownRow(dice *rand.Rand, n int) []int {
	most := []int{1, 2, 10, 1000, 1 << 20}[dice.Intn(5)]
	l := make([]int, n)
	for i := range l {
		l[i] = dice.Intn(2*most+1) - most
	}
	return l
}
