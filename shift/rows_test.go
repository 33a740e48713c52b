package shift_test

import (
	"fmt"
	"math"
	"math/rand"
	"slices"
	"strings"
	"testing"

	"meridian/api"
	"meridian/shift"
)

const most = 1 << 20 // a row's number, in size

func joined(l []int) string { return strings.Trim(fmt.Sprint(l), "[]") }

// P133: shifts, written out.
func TestKnownShifts(t *testing.T) {
	for _, k := range []struct {
		n, seed, other, most, best, sum int
		all                             string
	}{
		{1, 3, 4, most, 0, 1099485413520, "b10108d74e52cdac51fd44a6b5e79a5eeadb1d00231a2e3d20ed3af239cf272a"},
		{2, 5, 1, most, 0, 1583346456774, "63122393ad0dca6759eea6b8db67f3786e06f2219185bcb9c4a6fe7166d09c53"},
		{3, 9, 2, most, 0, 661664249125, "24a4949cec7d9d4da5a5d006fa8c0715e7206d0b68d13718e586d350788093b2"},
		{10, 3, 8, 100, 1, 38373, "5931e18a48a33862dbc5b24b11f6b059f5891db50efc136d87b1c85dac5b18bb"},
		{100, 7, 7, most, 0, 42829333160865, "19cd6dd1f4bc71b6a09334fdda5e4798372e14291f1359db8f6c284953a66dd6"},
		{255, 12, 5, most, 47, 12535430246822, "b68aa67546bf6d78f15ce0b47a791736d418f0100554171bab84063f48feeb4b"},
		{256, 6, 7, most, 126, 36627286614322, "3caf24d2d7908a5907540ec17715d92b2c77facc0e92f807856c98d45286134b"},
		{256, 31, 31, 3, 0, 509, "60c603d1070f57a16bcbbdf4a8ad278e276b8a9559b0d0bcd3edae787d1a323b"},
	} {
		a, b := madeRow(k.n, k.seed, k.most), madeRow(k.n, k.other, k.most)
		l, err := shift.Cross(a, b)
		if err != nil || sum256(joined(l)) != k.all {
			t.Errorf("%d of %d, %d: the sums are others, %v", k.n, k.seed, k.other, err)
		}
		if s, sum, err := shift.Best(a, b); err != nil || s != k.best || sum != k.sum {
			t.Errorf("%d of %d, %d: %d, %d, %v", k.n, k.seed, k.other, s, sum, err)
		}
		if ok, err := shift.Proved(a, b, k.best); err != nil || !ok {
			t.Errorf("%d of %d, %d: %v, %v", k.n, k.seed, k.other, ok, err)
		}
	}
}

// P133, P134: small rows, and the greatest numbers.
func TestShiftsOfFew(t *testing.T) {
	for _, c := range []struct{ a, b, want []int }{
		{[]int{3}, []int{-7}, []int{-21}},
		{[]int{0}, []int{0}, []int{0}},
		{[]int{1, 2, 3}, []int{3, 1, 2}, []int{11, 14, 11}},
		{[]int{1, 0, 0}, []int{5, 6, 7}, []int{5, 6, 7}},
		{[]int{0, 1, 0}, []int{5, 6, 7}, []int{6, 7, 5}},
		{[]int{5, 6, 7}, []int{1, 0, 0}, []int{5, 7, 6}},
		{[]int{1, 1}, []int{-2, -2}, []int{-4, -4}},
		{[]int{1, 2, 1, 2}, []int{2, 1, 2, 1}, []int{8, 10, 8, 10}},
		{[]int{-1, 0, 0}, []int{1, 2, 3}, []int{-1, -2, -3}},
		{[]int{most, -most}, []int{-most, most}, []int{-1 << 41, 1 << 41}},
		{slices.Repeat([]int{most}, 256), slices.Repeat([]int{most}, 256), slices.Repeat([]int{1 << 48}, 256)},
		{slices.Repeat([]int{-most}, 256), slices.Repeat([]int{most}, 256), slices.Repeat([]int{-1 << 48}, 256)},
	} {
		needRows(t, c.a, c.b, c.want)
	}
}

// P133, P134, P4: rows of every length; they stay as they are, and so does what lies behind them.
func TestShifts(t *testing.T) {
	dice := rand.New(rand.NewSource(133))
	for n := 1; n <= 256; n++ {
		if n > 40 && n < 250 && n%9 != 0 {
			continue
		}
		a, b := thrownRow(dice, n+1), thrownRow(dice, n+1)
		oldA, oldB := slices.Clone(a), slices.Clone(b)
		needRows(t, a[:n], b[:n], toldCross(a[:n], b[:n]))
		needRows(t, a[:n], a[:n], toldCross(a[:n], a[:n]))
		if !slices.Equal(a, oldA) || !slices.Equal(b, oldB) {
			t.Fatal("a row was changed")
		}
	}
}

// P133: guesses, written out: of rows of which one shift is best, and of such as have two
// that are as good, of which rounding tells the second.
func TestKnownGuesses(t *testing.T) {
	for _, k := range []struct{ n, seed, other, most, want int }{
		{1, 3, 4, most, 0}, {2, 5, 1, most, 0}, {4, 9, 2, most, 1}, {8, 3, 8, 100, 1}, {64, 7, 7, most, 0},
		{128, 12, 5, most, 43}, {256, 6, 7, most, 126}, {256, 31, 31, 3, 0},
	} {
		needGuess(t, madeRow(k.n, k.seed, k.most), madeRow(k.n, k.other, k.most), k.want)
	}
	for _, k := range []struct{ n, seed, one, other, best, want int }{
		{16, 8, 11, 7, 7, 11}, {16, 25, 2, 8, 2, 8}, {32, 14, 21, 19, 19, 21}, {32, 24, 27, 23, 23, 27},
		{64, 18, 49, 3, 3, 49}, {128, 10, 57, 67, 57, 67}, {256, 16, 99, 215, 99, 215}, {256, 24, 155, 119, 119, 155},
	} {
		a, b := madeRow(k.n, k.seed, most/2), make([]int, k.n)
		for i, x := range a {
			b[(i+k.one)%k.n] += x
			b[(i+k.other)%k.n] += x
		}
		needGuess(t, a, b, k.want)
		if s, _, err := shift.Best(a, b); err != nil || s != k.best {
			t.Errorf("Best of %d, %d: %d, %v, want %d", k.n, k.seed, s, err, k.best)
		}
		if ok, err := shift.Proved(a, b, k.want); err != nil || !ok {
			t.Errorf("of %d, %d the shift %d is not proved, %v", k.n, k.seed, k.want, err)
		}
	}
}

// P133, P4: guesses of all kinds, of rows that are shifted by so much and of others.
func TestGuess(t *testing.T) {
	dice := rand.New(rand.NewSource(1330))
	for n := 1; n <= 256; n *= 2 {
		needGuess(t, make([]int, n), make([]int, n), 0)
		for range 30 {
			all, other := thrownRow(dice, n+1), thrownRow(dice, n+1)
			old := slices.Clone(all)
			a, b := all[:n], make([]int, n)
			needGuess(t, a, other[:n], toldGuess(a, other[:n]))
			by := dice.Intn(n)
			for i := range a {
				b[(i+by)%n] = a[i]
			}
			needGuess(t, a, b, toldGuess(a, b))
			if !slices.Equal(all, old) {
				t.Fatal("a row was changed")
			}
			a = make([]int, n)
			a[dice.Intn(n)], b = 1, make([]int, n)
			for i := range a {
				b[(i+by)%n] = most * a[i]
			}
			needGuess(t, a, b, by)
		}
	}
}

// needWrong: all that is asked of two rows tells one error, with nothing else.
func needWrong(t *testing.T, a, b []int, want error) {
	t.Helper()
	l, err := shift.Cross(a, b)
	if err != want || len(l) != 0 {
		t.Errorf("Cross of %d, %d: %v, %v, want %v", len(a), len(b), l, err, want)
	}
	if s, sum, err := shift.Best(a, b); err != want || s != 0 || sum != 0 {
		t.Errorf("Best of %d, %d: %d, %d, %v, want %v", len(a), len(b), s, sum, err, want)
	}
	if s, err := shift.Guess(a, b); err != want || s != 0 {
		t.Errorf("Guess of %d, %d: %d, %v, want %v", len(a), len(b), s, err, want)
	}
	for _, s := range []int{math.MinInt, -1, 0, 1, math.MaxInt} {
		if ok, err := shift.Proved(a, b, s); err != want || ok {
			t.Errorf("Proved of %d, %d, %d: %v, %v, want %v", len(a), len(b), s, ok, err, want)
		}
	}
}

// P133, P134: what is wrong with rows, the first of it.
func TestWrongRows(t *testing.T) {
	long := make([]int, 257)
	for _, c := range []struct {
		a, b []int
		want error
	}{
		{long, long, api.ErrBound},
		{long, nil, api.ErrBound},
		{nil, long, api.ErrBound},
		{long, long[1:], api.ErrBound},
		{long[1:], long, api.ErrBound},
		{nil, nil, api.ErrShape},
		{[]int{}, []int{}, api.ErrShape},
		{[]int{1}, nil, api.ErrShape},
		{nil, []int{1}, api.ErrShape},
		{[]int{1, 2}, []int{1}, api.ErrShape},
		{[]int{1}, []int{1, 2}, api.ErrShape},
		{[]int{most + 1}, []int{1, 2}, api.ErrShape},
		{[]int{math.MinInt}, nil, api.ErrShape},
		{long[1:], long[2:], api.ErrShape},
		{[]int{most + 1}, []int{0}, api.ErrBound},
		{[]int{0}, []int{most + 1}, api.ErrBound},
		{[]int{0, -most - 1}, []int{0, 0}, api.ErrBound},
		{[]int{0, 0}, []int{0, -most - 1}, api.ErrBound},
		{[]int{math.MinInt}, []int{0}, api.ErrBound},
		{[]int{0}, []int{math.MinInt}, api.ErrBound},
		{[]int{0, math.MaxInt, 0}, []int{0, 0, 0}, api.ErrBound},
		{[]int{0, 0, 0}, []int{0, 0, math.MaxInt}, api.ErrBound},
	} {
		needWrong(t, c.a, c.b, c.want)
	}
}

// P133: a guess alone asks for a power of 2, behind all else.
func TestGuessWrong(t *testing.T) {
	for n := 1; n <= 256; n++ {
		l := make([]int, n)
		l[0] = most
		want := api.ErrShape
		if slices.Contains([]int{1, 2, 4, 8, 16, 32, 64, 128, 256}, n) {
			want = nil
		}
		if s, err := shift.Guess(l, l); err != want || s != 0 {
			t.Errorf("Guess of %d: %d, %v, want %v", n, s, err, want)
		}
		if s, sum, err := shift.Best(l, l); err != nil || s != 0 || sum != most*most {
			t.Errorf("Best of %d: %d, %d, %v", n, s, sum, err)
		}
		l[0]++
		if s, err := shift.Guess(l, l); err != api.ErrBound || s != 0 {
			t.Errorf("Guess of %d: %d, %v", n, s, err)
		}
	}
}

// P4: what is told is new memory.
func TestCrossMemory(t *testing.T) {
	a, b := []int{5}, []int{1}
	l, err := shift.Cross(a, b)
	if err != nil {
		t.Fatal(err)
	}
	l[0] = 77
	if a[0] != 5 || b[0] != 1 {
		t.Error("what is told shares memory with a row")
	}
	if again, _ := shift.Cross(a, b); again[0] != 5 {
		t.Error("what was told is kept")
	}
}
