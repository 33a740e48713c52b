package shift_test

import (
	"math"
	"math/rand"
	"slices"
	"testing"

	"meridian/api"
	"meridian/bits"
	"meridian/shift"
)

// known waves: the parts of the middle one, and the sum of all bits.
type known struct {
	n, seed         int
	back            bool
	across, up, sum string
}

func (k known) need(t *testing.T, l []complex128, err error) {
	t.Helper()
	if err != nil || len(l) != k.n {
		t.Errorf("%d of %d: %d, %v", k.n, k.seed, len(l), err)
		return
	}
	middle := l[k.n/2]
	if bits.Text(real(middle)) != k.across || bits.Text(imag(middle)) != k.up {
		t.Errorf("%d of %d, %v: the middle one is %v", k.n, k.seed, k.back, middle)
	}
	if sum256(textOf(l)) != k.sum {
		t.Errorf("%d of %d, %v: the waves are others", k.n, k.seed, k.back)
	}
}

// P130: waves, written out.
func TestKnownWaves(t *testing.T) {
	for _, k := range []known{
		{1, 3, false, "c029000000000000", "bf98f5c28f5c28f6", "aefcbf1a5752afa95ac892e3782e4aca8b5947e4751a1baf95f701d1b450fd8a"},
		{1, 3, true, "c029000000000000", "bf98f5c28f5c28f6", "aefcbf1a5752afa95ac892e3782e4aca8b5947e4751a1baf95f701d1b450fd8a"},
		{2, 5, false, "c015000000000000", "bfc9d70a3d70a3d7", "f2c533706f290554e4deca6e3e6a1c1cb92493f9e46e64f59e69f37f5c443aba"},
		{2, 5, true, "c005000000000000", "bfb9d70a3d70a3d7", "9a6092f4c95ecb65bab5bd37f8b806d2c1e195d2ee80e2097418f8e3d7bf78d4"},
		{3, 7, false, "c02b4c4b10c75516", "4029315806835234", "d0ac660fe1895d693f5b7bafce715002ed4739610fe8094a8b259ee9ef0562c0"},
		{3, 7, true, "c01022789f7b1c9d", "c01144bc63ea521b", "a6fa58647148a6e1d36c8d679a626597d54cd10c63e55d50bd38bd98c1026765"},
		{5, 11, false, "40493030821efc97", "40425bf024e68de7", "31dfbe7c484bf84e2dbc3be85e7879bb48769533e421ec72d8778f09088660a8"},
		{5, 11, true, "c02059ffde31c646", "401e2fd97941c0dd", "1d987cbc8149a96c0055d8bf02f2e6ae9feb80914cce2a948010111ef43f973a"},
		{7, 2, false, "40647ed7969d32a2", "404786eb49a06399", "c9b1bdae6a3f735848ae9b8d0d9424e1fd923143cec936da023ffe7bedbc2a87"},
		{7, 2, true, "c0397cc3da41d9a3", "4004196c941c9fa6", "b18ab027031355ce6291c967d5767f98017d525c6789498809e2be3ff47f5232"},
		{12, 9, false, "c025000000000000", "c07cabee147ae146", "629a4952b72704b9f1608c1975640e73e8e32301e40d1813f5a03eb1af6d6ab2"},
		{12, 9, true, "bfec000000000000", "c0431d4962fc962f", "f169dc619713f4776584bdd2da64619ac96b5719d6cfa6748fcbd71b6f9865e2"},
		{100, 4, false, "c04b800000000000", "c066c66b851eb850", "e4c4544f02a01c4dc3cd62ebce7d195ae380bec90b717ee4a66d76481f86e299"},
		{100, 4, true, "bfe199999999999a", "bffd26f0068db8b8", "e0dc3cf2a55510be9279fe8398e5e8ab7d70da80293105cba5c34b5f3516dca6"},
		{129, 6, false, "c083d6b664365029", "40701220427b3a35", "61e5de028983d54fefd21a6daf75ff413524bb64fbdddc6afc4463d274d00984"},
		{129, 6, true, "401ab9a8e9614ff7", "3ff895d90ae15027", "9bbcb8b08e8329af04281953c6a312c95021df35310620bc72aa07943a10a2dc"},
		{255, 8, false, "402d14261ff4f983", "40421b096483545f", "05b7cdcadad1e7a3eee7b5c3f5c93e6f2dc78cb159e224bddfdc177fe3817283"},
		{255, 8, true, "bfb51b340914d0db", "bfd482bcdb092b45", "cc69737bef0896bdf7d9fca1dd109f09a250c4d54a667a7a54e8d3c74dc8756b"},
		{256, 1, false, "3fc0000000000000", "c036d3ae147ae152", "8a67a0d79e5329746c78de4d57c9c187c3cb51bfd66d9cc8189767f71c764c48"},
		{256, 1, true, "3f40000000000000", "bfb6d3ae147ae152", "a1ab84119f7f46a30975472bb92a45237ce8a753ad9034d1551b30d580924a21"},
	} {
		l, err := shift.Waves(madeWaves(k.n, k.seed), k.back)
		k.need(t, l, err)
	}
}

// P130: by quarter turns, which are exact but for the sign of a zero.
func TestWavesOfQuarters(t *testing.T) {
	for _, c := range []struct {
		l, there, back []complex128
	}{
		{[]complex128{3 - 4i}, []complex128{3 - 4i}, []complex128{3 - 4i}},
		{[]complex128{1, 3}, []complex128{4, -2}, []complex128{2, -1}},
		{[]complex128{1, 0, 0, 0}, []complex128{1, 1, 1, 1}, []complex128{0.25, 0.25, 0.25, 0.25}},
		{[]complex128{0, 1, 0, 0}, []complex128{1, -1i, -1, 1i}, []complex128{0.25, 0.25i, -0.25, -0.25i}},
		{[]complex128{0, 0, 0, 4i}, []complex128{4i, -4, -4i, 4}, []complex128{1i, 1, -1i, -1}},
		{[]complex128{1, 2i, -3, 4 - 1i}, []complex128{2 + 1i, 7 + 4i, -6 - 1i, 1 - 4i}, []complex128{0.5 + 0.25i, 0.25 - 1i, -1.5 - 0.25i, 1.75 + 1i}},
	} {
		for back, want := range map[bool][]complex128{false: c.there, true: c.back} {
			x, err := shift.Waves(c.l, back)
			y, err2 := shift.Fast(c.l, back)
			if err != nil || err2 != nil || !slices.Equal(x, want) || !slices.Equal(y, want) {
				t.Errorf("of %v, %v: %v, %v, %v, %v, want %v", c.l, back, x, err, y, err2, want)
			}
		}
	}
}

// P130: all numbers that there are: each step by itself, from 0 on.
func TestWavesOfAllNumbers(t *testing.T) {
	least := 0x1p-1074
	for _, c := range []struct {
		l, there, back []complex128
	}{
		// A sum from 0 on is no -0.
		{[]complex128{complex(minusZero, minusZero)}, []complex128{0}, []complex128{0}},
		// An infinity times the sine 0 is no number.
		{[]complex128{complex(up, 0)}, []complex128{complex(up, no)}, []complex128{complex(up, no)}},
		{[]complex128{complex(0, -up)}, []complex128{complex(no, -up)}, []complex128{complex(no, -up)}},
		{[]complex128{complex(no, 0), 1}, []complex128{complex(no, no), complex(no, no)}, []complex128{complex(no, no), complex(no, no)}},
		// What is too great on the way stays so.
		{[]complex128{math.MaxFloat64, math.MaxFloat64}, []complex128{complex(up, 0), 0}, []complex128{complex(up, 0), 0}},
		{[]complex128{complex(least, 0), 0}, []complex128{complex(least, 0), complex(least, 0)}, []complex128{0, 0}},
		{[]complex128{complex(0, 3*least), 0}, []complex128{complex(0, 3*least), complex(0, 3*least)}, []complex128{complex(0, 2*least), complex(0, 2*least)}},
	} {
		needWaves(t, c.l, false, c.there)
		needWaves(t, c.l, true, c.back)
	}
	// They are added from the first one on.
	for _, c := range []struct {
		l    []complex128
		want float64
	}{{[]complex128{1e100, -1e100, 1}, 1}, {[]complex128{1e100, 1, -1e100}, 0}, {[]complex128{1, 1e100, -1e100}, 0}} {
		if x, err := shift.Waves(c.l, false); err != nil || real(x[0]) != c.want {
			t.Errorf("Waves(%v) = %v, %v", c.l, x, err)
		}
	}
}

// thrownWaves of all sizes; some parts are 0.
func thrownWaves(dice *rand.Rand, n, lowest, highest int) []complex128 {
	low := lowest + dice.Intn(highest-lowest)
	high := low + 1 + dice.Intn(highest-low)
	part := func() float64 {
		if dice.Intn(10) == 0 {
			return math.Copysign(0, float64(dice.Intn(2))-0.5)
		}
		x := math.Ldexp(1+dice.Float64(), low+dice.Intn(high-low))
		return math.Copysign(x, float64(dice.Intn(2))-0.5)
	}
	l := make([]complex128, n)
	for i := range l {
		l[i] = complex(part(), part())
	}
	return l
}

// P130, P4: rows of every length; they stay as they are, and so does what lies behind them.
func TestWaves(t *testing.T) {
	dice := rand.New(rand.NewSource(130))
	for n := 1; n <= 256; n++ {
		if n > 40 && n < 250 && n%9 != 0 {
			continue
		}
		all := thrownWaves(dice, n+1, -1040, 1000)
		old := slices.Clone(all)
		l := all[:n]
		needWaves(t, l, false, toldWaves(l, false))
		needWaves(t, l, true, toldWaves(l, true))
		if !sameWaves(all, old) {
			t.Fatal("a row was changed")
		}
	}
}

// P130: none, and too many.
func TestWavesWrong(t *testing.T) {
	for _, back := range []bool{false, true} {
		for _, l := range [][]complex128{nil, {}} {
			if x, err := shift.Waves(l, back); err != api.ErrShape || len(x) != 0 {
				t.Error(x, err)
			}
		}
		for _, n := range []int{257, 258, 512, 100000} {
			if x, err := shift.Waves(make([]complex128, n), back); err != api.ErrBound || len(x) != 0 {
				t.Error(n, x, err)
			}
		}
		if x, err := shift.Waves(make([]complex128, 256), back); err != nil || !sameWaves(x, make([]complex128, 256)) {
			t.Error(x, err)
		}
	}
}

// P4: what is told is new memory, of one number too.
func TestWavesMemory(t *testing.T) {
	for n := 1; n <= 8; n *= 2 {
		for _, call := range []func([]complex128, bool) ([]complex128, error){shift.Waves, shift.Fast} {
			for _, back := range []bool{false, true} {
				l := madeWaves(n, 5)
				x, err := call(l, back)
				if err != nil {
					t.Fatal(err)
				}
				for k := range x {
					x[k] = 77
				}
				if !sameWaves(l, madeWaves(n, 5)) {
					t.Error("what is told shares memory with the row")
				}
				again, _ := call(l, back)
				if again[0] == 77 {
					t.Error("what was told is kept")
				}
			}
		}
	}
}
