package array_test

import (
	"math"
	"testing"

	"parterre/api"
	"parterre/array"
)

// TestRaoOfAll has A3: all that Rao takes, and one beyond each end.
func TestRaoOfAll(t *testing.T) {
	found := map[api.Errno]int{}
	for k := -1; k <= 32; k++ {
		for s := -1; s <= 66; s++ {
			for strength := -1; strength <= k+2; strength++ {
				want, wantE := raoOf(k, s, strength)
				found[wantE]++
				got, e := array.Rao(k, s, strength)
				wantNumber(t, name("Rao", k, s, strength), got, e, want, wantE)
			}
		}
	}
	for _, e := range []api.Errno{api.OK, api.ErrRange, api.ErrFull} {
		if found[e] == 0 {
			t.Errorf("no error %d", e)
		}
	}
}

// TestRaoByHand has A3: sums that are told by hand.
func TestRaoByHand(t *testing.T) {
	for _, x := range [][4]int{
		{7, 2, 2, 8}, {4, 3, 2, 9},
		{1, 2, 0, 1}, {1, 2, 1, 2}, {1, 64, 1, 64}, {30, 64, 0, 1}, {30, 64, 1, 64}, {30, 2, 1, 2},
		{2, 2, 2, 3}, {2, 64, 2, 127}, {8, 2, 3, 16}, // 1 + 8 + 1 times 7
		{3, 3, 3, 15},                    // 1 + 2 times 3 + 4 times 2
		{11, 3, 4, 243},                  // 1 + 22 + 220 (Golay)
		{23, 2, 6, 2048},                 // 1 + 23 + 253 + 1771 (Golay)
		{24, 2, 7, 4096},                 // 1 + 24 + 276 + 2024 + 1771
		{12, 3, 5, 729},                  // 1 + 24 + 264 + 8 times 55
		{30, 2, 30, 1<<29 + 155117520/2}, // half of all, and half of the middle
	} {
		got, e := array.Rao(x[0], x[1], x[2])
		wantNumber(t, name("Rao", x[0], x[1], x[2]), got, e, x[3], api.OK)
	}
}

// TestRaoBeyond has A3's errors: each number far beyond its ends, where a sum or product would go round.
func TestRaoBeyond(t *testing.T) {
	for _, x := range [][3]int{
		{0, 2, 0}, {-1, 2, 0}, {31, 2, 2}, {31, 2, 31}, {7, 1, 2}, {7, 0, 2}, {7, -1, 2}, {7, 65, 2}, {7, 2, -1}, {7, 2, 8}, {1, 2, 2}, {30, 2, 31},
		{30, 65, 30}, {31, 64, 30}, {30, 64, 31}, // ErrFull is told behind
		{math.MinInt, 2, 0}, {math.MaxInt, 2, 0}, {math.MaxInt, 2, math.MaxInt}, {math.MinInt, 2, math.MinInt}, {1 << 32, 2, 2}, {1<<32 + 7, 2, 2},
		{7, math.MinInt, 2}, {7, math.MaxInt, 2}, {7, 1<<32 + 2, 2}, {7, 2, math.MinInt}, {7, 2, math.MaxInt}, {7, 2, 1<<32 + 2},
	} {
		got, e := array.Rao(x[0], x[1], x[2])
		wantNumber(t, name("Rao", x), got, e, 0, api.ErrRange)
	}
	for _, x := range [][3]int{{30, 64, 30}, {30, 64, 29}, {30, 63, 30}, {29, 64, 29}, {30, 33, 28}, {30, 17, 30}} {
		got, e := array.Rao(x[0], x[1], x[2])
		wantNumber(t, name("Rao", x), got, e, 0, api.ErrFull)
	}
}

// TestRaoAboutTheEnd has A3: for each k and s what is told grows with t, and ErrFull stays.
func TestRaoAboutTheEnd(t *testing.T) {
	for k := 1; k <= 30; k++ {
		for s := 2; s <= 64; s++ {
			ahead, full := 0, false
			for strength := 0; strength <= k; strength++ {
				got, e := array.Rao(k, s, strength)
				if e == api.OK && (full || got <= ahead || got > 1_000_000_000_000_000_000) || e != api.OK && e != api.ErrFull {
					t.Errorf("Rao of %d %d %d: got %d, error %d, behind %d", k, s, strength, got, e, ahead)
				}
				ahead, full = got, e == api.ErrFull
			}
		}
	}
}
