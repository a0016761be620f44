package space_test

import (
	"math"
	"math/big"
	"testing"

	"parterre/api"
	"parterre/space"
)

// bigGauss goes by the words of S3.
func bigGauss(n, k, q int) *big.Int {
	less := func(i int) *big.Int {
		x := new(big.Int).Exp(big.NewInt(int64(q)), big.NewInt(int64(i)), nil)
		return x.Sub(x, big.NewInt(1))
	}
	above, below := big.NewInt(1), big.NewInt(1)
	for i := range k {
		above.Mul(above, less(n-i))
		below.Mul(below, less(i+1))
	}
	return above.Div(above, below)
}

// TestGauss has S3, at all that it takes.
func TestGauss(t *testing.T) {
	most := big.NewInt(1_000_000_000_000_000_000)
	told, full := 0, 0
	for n := range 31 {
		for k := range n + 1 {
			for q := 2; q <= 64; q++ {
				want, wantError := 0, api.ErrFull
				if x := bigGauss(n, k, q); x.Cmp(most) <= 0 {
					want, wantError = int(x.Int64()), api.OK
					told++
				} else {
					full++
				}
				got, e := space.Gauss(n, k, q)
				wantNumber(t, name("Gauss", n, k, q), got, e, want, wantError)
			}
		}
	}
	if told == 0 || full == 0 {
		t.Errorf("%d are told, %d are not", told, full)
	}
}

// TestGaussOfKnown has numbers that were worked out by hand, or are widely known.
func TestGaussOfKnown(t *testing.T) {
	for _, x := range [][4]int{
		{4, 2, 2, 35}, {3, 1, 5, 31}, {0, 0, 2, 1}, {30, 0, 64, 1}, {30, 30, 64, 1}, {1, 1, 2, 1}, {2, 1, 64, 65}, {2, 1, 6, 7},
		{5, 2, 2, 155}, {6, 3, 2, 1395}, {4, 2, 3, 130}, {30, 1, 2, 1<<30 - 1}, {30, 29, 2, 1<<30 - 1}, {3, 2, 10, 111},
		{19, 1, 10, 0}, {18, 1, 10, 111_111_111_111_111_111},
	} {
		got, e := space.Gauss(x[0], x[1], x[2])
		want := api.OK
		if x[3] == 0 {
			want = api.ErrFull
		}
		wantNumber(t, name("Gauss", x), got, e, x[3], want)
	}
}

// TestGaussOfWrong has S3's bounds, each of them beside all others.
func TestGaussOfWrong(t *testing.T) {
	ends := []int{math.MinInt, math.MinInt + 1, -1 << 32, -2, -1, 0, 1, 2, 3, 29, 30, 31, 32, 63, 64, 65, 66, 1 << 32, 1<<32 + 2, math.MaxInt - 1, math.MaxInt}
	for _, n := range ends {
		for _, k := range ends {
			for _, q := range ends {
				if n >= 0 && n <= 30 && k >= 0 && k <= n && q >= 2 && q <= 64 {
					continue
				}
				got, e := space.Gauss(n, k, q)
				wantNumber(t, name("Gauss", n, k, q), got, e, 0, api.ErrRange)
			}
		}
	}
	for n := range 31 {
		for _, x := range [][2]int{{-1, 2}, {n + 1, 2}, {n, 1}, {n, 65}, {0, 0}, {0, -2}} {
			got, e := space.Gauss(n, x[0], x[1])
			wantNumber(t, name("Gauss", n, x), got, e, 0, api.ErrRange)
		}
	}
}
