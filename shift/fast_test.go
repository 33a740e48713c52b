package shift_test

import (
	"math"
	"math/rand"
	"slices"
	"testing"

	"meridian/api"
	"meridian/shift"
)

// P131: fast waves, written out.
func TestKnownFast(t *testing.T) {
	for _, k := range []known{
		{1, 3, false, "c029000000000000", "bf98f5c28f5c28f6", "aefcbf1a5752afa95ac892e3782e4aca8b5947e4751a1baf95f701d1b450fd8a"},
		{1, 3, true, "c029000000000000", "bf98f5c28f5c28f6", "aefcbf1a5752afa95ac892e3782e4aca8b5947e4751a1baf95f701d1b450fd8a"},
		{2, 5, false, "c015000000000000", "bfc9d70a3d70a3d7", "f2c533706f290554e4deca6e3e6a1c1cb92493f9e46e64f59e69f37f5c443aba"},
		{2, 5, true, "c005000000000000", "bfb9d70a3d70a3d7", "9a6092f4c95ecb65bab5bd37f8b806d2c1e195d2ee80e2097418f8e3d7bf78d4"},
		{4, 7, false, "c011800000000000", "403624f5c28f5c29", "22400048df928435387b5071a5378e4a5f637d6fc0e9f655c495710d029aae1e"},
		{4, 7, true, "bff1800000000000", "401624f5c28f5c29", "bc213344fa87195a26a0969051efe036df5c6fade26353422c9170ccbad2ced6"},
		{8, 11, false, "c022c00000000000", "c04dea7ae147ae15", "88e63962edce37e053fcb2c17a4939b75b3fa98e4ee45664ec186f197733588f"},
		{8, 11, true, "bff2c00000000000", "c01dea7ae147ae15", "e2b99d98ef8fbe2bf3c6fda03cb844c98842017e9d9af2ea75b8b2db0f8cf325"},
		{16, 2, false, "4047000000000000", "c0743bc000000000", "3e4ea5db2806bb7c195bda4d6bc250dda03d78cbc6bffebf7d008b0e90b9ecf6"},
		{16, 2, true, "4007000000000000", "c0343bc000000000", "ebe841ca6899628364f48d78d1e78698bf67b15e2b6071bbc544124dfdf44f3c"},
		{32, 9, false, "bfe0000000000000", "c06467f5c28f5c28", "157a893e84b76ae60d8721699a9b9200c344c0d5302f16f231fa8a6719f8d292"},
		{32, 9, true, "bf90000000000000", "c01467f5c28f5c28", "2311bd7c0513b2273e2dfec8b59fd2065ba84da8a842f83fa84c524b88e5994d"},
		{64, 4, false, "c045e00000000000", "407787970a3d70a4", "824f81a81f97d586df370fa976d029eea7ffc7e629ab08606dcfcef61fc3da78"},
		{64, 4, true, "bfe5e00000000000", "401787970a3d70a4", "3a5f3208fd06bf5999b1976d7a74c5ad556b8cff122cec919cda3cfb275930c2"},
		{128, 6, false, "c03be00000000000", "4081414000000000", "212096d17156b99a080a63ad190092106729e008a024170403750fa762279d3f"},
		{128, 6, true, "bfcbe00000000000", "4011414000000000", "d8febd5c6f2b2f0c655dab202e32773e21165d244e7bb6ef7553b1aa1be807ce"},
		{256, 1, false, "3fc0000000000000", "c036d3ae147ae130", "7cd49ea4f1153d36cd0e321f54091cb8da6f46fc6ad2d70d117adf0fcc102a44"},
		{256, 1, true, "3f40000000000000", "bfb6d3ae147ae130", "eeae2fe3ccde3c8e89c67ecbd6b57812ed676aa1eae0fb1b12fe82a3538245cd"},
	} {
		l, err := shift.Fast(madeWaves(k.n, k.seed), k.back)
		k.need(t, l, err)
	}
}

// P131: of one: itself, whatever it is; of two: each step by itself.
func TestFastOfAllNumbers(t *testing.T) {
	for _, x := range []complex128{0, 5 - 7i, complex(minusZero, minusZero), complex(up, minusZero), complex(no, -up), complex(0x1p-1074, math.MaxFloat64)} {
		needFast(t, []complex128{x}, false, []complex128{x})
		needFast(t, []complex128{x}, true, []complex128{x})
	}
	least := 0x1p-1074
	for _, c := range []struct {
		l, there, back []complex128
	}{
		// A quotient of parts leaves what is infinite alone.
		{[]complex128{complex(up, 6), 0}, []complex128{complex(up, 6), complex(up, 6)}, []complex128{complex(up, 3), complex(up, 3)}},
		{[]complex128{0, complex(up, 6)}, []complex128{complex(up, no), complex(-up, no)}, []complex128{complex(up, no), complex(-up, no)}},
		{[]complex128{math.MaxFloat64, math.MaxFloat64}, []complex128{complex(up, 0), 0}, []complex128{complex(up, 0), 0}},
		{[]complex128{complex(least, 0), 0}, []complex128{complex(least, 0), complex(least, 0)}, []complex128{0, 0}},
		{[]complex128{complex(minusZero, 0), 0}, []complex128{0, complex(minusZero, 0)}, []complex128{0, complex(minusZero, 0)}},
	} {
		needFast(t, c.l, false, c.there)
		needFast(t, c.l, true, c.back)
	}
}

// P131, P4: rows of every length; they stay as they are, and so does what lies behind them.
func TestFast(t *testing.T) {
	dice := rand.New(rand.NewSource(131))
	for n := 1; n <= 256; n *= 2 {
		for range 30 {
			all := thrownWaves(dice, n+1, -1040, 1000)
			old := slices.Clone(all)
			l := all[:n]
			needFast(t, l, false, toldFast(l, false))
			needFast(t, l, true, toldFast(l, true))
			if !sameWaves(all, old) {
				t.Fatal("a row was changed")
			}
		}
	}
}

// P131: too many, which is told first, and no power of 2.
func TestFastWrong(t *testing.T) {
	for n := range 600 {
		want := api.ErrShape
		switch {
		case n > 256:
			want = api.ErrBound
		case slices.Contains([]int{1, 2, 4, 8, 16, 32, 64, 128, 256}, n):
			want = nil
		}
		for _, back := range []bool{false, true} {
			x, err := shift.Fast(make([]complex128, n), back)
			if err != want || err != nil && len(x) != 0 || err == nil && len(x) != n {
				t.Errorf("of %d: %d, %v, want %v", n, len(x), err, want)
			}
		}
	}
	if x, err := shift.Fast(nil, true); err != api.ErrShape || len(x) != 0 {
		t.Error(x, err)
	}
}

// farthest: the greatest difference of two rows, part by part.
func farthest(l, m []complex128) float64 {
	far := 0.0
	for i := range l {
		d := l[i] - m[i]
		far = max(far, math.Abs(real(d)), math.Abs(imag(d)))
	}
	return far
}

// needNear: Fast there and back, and Waves, are as near as they must be.
func needNear(t *testing.T, l []complex128) {
	t.Helper()
	size := farthest(l, make([]complex128, len(l)))
	there, err := shift.Fast(l, false)
	if err != nil {
		t.Fatal(err)
	}
	again, err := shift.Fast(there, true)
	if err != nil || !(farthest(again, l) <= 0x1p-40*size) {
		t.Fatalf("%d there and back: %v off of %v, %v", len(l), farthest(again, l), size, err)
	}
	for _, back := range []bool{false, true} {
		x, _ := shift.Fast(l, back)
		y, err := shift.Waves(l, back)
		if err != nil || !(farthest(x, y) <= 0x1p-32*float64(len(l))*size) {
			t.Fatalf("%d: %v from Waves, of %v, %v", len(l), farthest(x, y), size, err)
		}
	}
}

// P132: how they go together.
func TestTogether(t *testing.T) {
	dice := rand.New(rand.NewSource(132))
	for n := 1; n <= 256; n *= 2 {
		needNear(t, make([]complex128, n))
		needNear(t, slices.Repeat([]complex128{1}, n))
		needNear(t, slices.Repeat([]complex128{complex(-0x1p300, 0x1p300)}, n))
		needNear(t, slices.Repeat([]complex128{complex(0x1p-300, -0x1p-300)}, n))
		needNear(t, madeWaves(n, 3))
		for k := range n {
			if k > 3 && k < n-3 && k%16 != 0 {
				continue
			}
			one := make([]complex128, n)
			one[k] = complex(0x1p-300, 0x1p300)
			needNear(t, one)
			// A row that is one wave: all of it comes together in one number.
			wave := make([]complex128, n)
			for j := range wave {
				wave[j] = turnBy(j*k%n, n, true).wave()
			}
			needNear(t, wave)
		}
		for range 30 {
			needNear(t, thrownWaves(dice, n, -300, 300))
		}
	}
}
