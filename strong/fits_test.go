package strong_test

import (
	"math"
	"testing"

	"parterre/api"
	"parterre/strong"
)

func wantFits(t *testing.T, s api.Strong) bool {
	t.Helper()
	got, e := strong.Fits(s)
	fits, wantE := fitsBy(s)
	want(t, name("Fits", s), got, e, fits, wantE)
	return got
}

// TestFitsOfSmall has G4: all numbers of up to 30 places, and one beyond each end.
func TestFitsOfSmall(t *testing.T) {
	for v := -1; v <= 30; v++ {
		for k := -1; k <= v+1; k++ {
			for l := -1; l <= v+1; l++ {
				for m := -1; m <= v+1; m++ {
					wantFits(t, api.Strong{Places: v, Degree: k, Near: l, Far: m})
				}
			}
		}
	}
}

// TestFitsOfCounted has G4: all that are right by counting, of some numbers of places up to the last; of these the eigenvalues tell.
func TestFitsOfCounted(t *testing.T) {
	for _, v := range []int{35, 36, 40, 45, 49, 50, 56, 57, 64, 65, 81, 100, 101, 126, 243, 256, 361, 400, 676, 729, 961, 997, 999, 1000} {
		yes, no := 0, 0
		for k := 1; k < v; k++ {
			for l := 0; l < k; l++ {
				left := v - k - 1
				if left > 0 && k*(k-l-1)%left == 0 && k*(k-l-1)/left <= v {
					if wantFits(t, api.Strong{Places: v, Degree: k, Near: l, Far: k * (k - l - 1) / left}) {
						yes++
					} else {
						no++
					}
				}
			}
		}
		if yes == 0 || no == 0 {
			t.Errorf("%d places: %d fit, %d do not", v, yes, no)
		}
	}
}

// TestFitsOfAllJoined has G4: counting tells nothing of Far then, so that eigenvalues alone do.
func TestFitsOfAllJoined(t *testing.T) {
	for v := 2; v <= 1000; v++ {
		for _, m := range []int{0, 1, 2, 3, v / 2, v - 2, v - 1, v} {
			wantFits(t, api.Strong{Places: v, Degree: v - 1, Near: v - 2, Far: m})
		}
		got, e := strong.Fits(api.Strong{Places: v, Degree: v - 1, Near: v - 2})
		want(t, name("Fits of all joined", v), got, e, true, api.OK)
	}
}

// TestFitsOfStrewn has G4: numbers as chance would have them.
func TestFitsOfStrewn(t *testing.T) {
	next := numbers(16)
	for range 100000 {
		wantFits(t, api.Strong{Places: next(1003), Degree: next(1003), Near: next(1003), Far: next(1003)})
	}
}

// asKnown are numbers, and what books tell, or what is told by hand.
type asKnown struct {
	v, k, l, m int
	want       bool
}

// TestFitsOfKnown has G4: what is there fits; so does what other means than counting and eigenvalues rule out.
func TestFitsOfKnown(t *testing.T) {
	for _, x := range []asKnown{
		{10, 3, 0, 1, true}, {28, 12, 6, 4, true}, {22, 7, 0, 3, false},
		{5, 2, 0, 1, true}, {9, 4, 1, 2, true}, {13, 6, 2, 3, true}, {15, 6, 1, 3, true}, {16, 5, 0, 2, true}, {16, 6, 2, 2, true},
		{26, 10, 3, 4, true}, {27, 10, 1, 5, true}, {50, 7, 0, 1, true}, {56, 10, 0, 2, true}, {77, 16, 0, 4, true}, {100, 22, 0, 6, true},
		{112, 30, 2, 10, true}, {162, 56, 10, 24, true}, {243, 22, 1, 2, true}, {275, 112, 30, 56, true},
		{997, 498, 248, 249, true},                       // 997 is a prime, and 1 modulo 4
		{1000, 1, 0, 0, true}, {1000, 999, 998, 0, true}, // pairs; and all joined
		{21, 10, 4, 5, true}, {33, 16, 7, 8, true}, // there is none, since 21 and 33 are no sums of two squares
		{28, 9, 0, 4, true}, {49, 16, 3, 6, true}, // there is none, by Krein, and by Bussemaker and others
		{2, 1, 0, 0, true}, {3, 2, 1, 0, true}, {4, 1, 0, 0, true}, {4, 2, 0, 2, true}, {6, 3, 0, 3, true},
		{17, 4, 0, 1, false}, {26, 5, 0, 1, false}, // four and five to each, two apart: 17 and 21 are no squares
		{3, 1, 0, 0, false}, // one is left over
		{7, 3, 1, 1, false}, {7, 2, 0, 0, false}, {8, 3, 0, 1, false},
		{6, 2, 0, 1, false}, {5, 2, 1, 0, false}, {10, 3, 1, 0, false},
		{2, 1, 2, 2, false}, {1000, 999, 1000, 1000, false},
		{5, 4, 3, 5, true}, {4, 3, 2, 4, false}, // all are joined, so that Far is of none: the sum is 0, and d is, too
	} {
		s := api.Strong{Places: x.v, Degree: x.k, Near: x.l, Far: x.m}
		got, e := strong.Fits(s)
		want(t, name("Fits", s), got, e, x.want, api.OK)
	}
}

// TestFitsBeyond has G4's error: each number one beyond its ends, and far beyond, where a product would go round to what is right.
func TestFitsBeyond(t *testing.T) {
	for _, x := range [][4]int{
		{1, 1, 0, 0}, {1, 0, 0, 0}, {0, 0, 0, 0}, {-1, 1, 0, 0}, {-10, 3, 0, 1}, {1001, 500, 249, 250}, {1001, 1, 0, 0}, {3250, 57, 0, 1},
		{10, 0, 0, 0}, {10, -1, 0, 0}, {10, 10, 0, 0}, {10, 11, 0, 1}, {1000, 1000, 0, 0}, {2, 2, 0, 0}, {2, 0, 0, 0},
		{10, 3, -1, 1}, {10, 3, 11, 1}, {10, 3, 0, -1}, {10, 3, 0, 11}, {1000, 1, 1001, 0}, {1000, 1, 0, 1001}, {2, 1, 3, 0}, {2, 1, 0, 3},
		{math.MinInt, 1, 0, 0}, {math.MinInt, math.MaxInt, 0, 0}, {math.MaxInt, 1, 0, 0}, {math.MaxInt, math.MaxInt - 1, math.MaxInt - 2, 0},
		{10, math.MinInt, 0, 0}, {10, math.MaxInt, 0, 0}, {10, 3, math.MinInt, 1}, {10, 3, math.MaxInt, 1}, {10, 3, 0, math.MinInt}, {10, 3, 0, math.MaxInt},
		{10, 3, 1 << 62, 1}, {10, 4, 3, 1 << 62}, {1<<32 + 10, 3, 0, 1}, {10, 1<<32 + 3, 0, 1}, {10, 3, 1 << 32, 1}, {10, 3, 0, 1<<32 + 1},
	} {
		s := api.Strong{Places: x[0], Degree: x[1], Near: x[2], Far: x[3]}
		got, e := strong.Fits(s)
		want(t, name("Fits", s), got, e, false, api.ErrRange)
	}
}
