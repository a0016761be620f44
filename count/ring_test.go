package count_test

import (
	"fmt"
	"math"
	"math/big"
	"testing"

	"parterre/api"
	"parterre/count"
)

// TestRingsOfTheBooks has C1, of 2 and of 3 colours.
func TestRingsOfTheBooks(t *testing.T) {
	for _, book := range []struct {
		colours          int
		beads, bracelets []int
	}{
		{2, []int{2, 3, 4, 6, 8, 14, 20, 36, 60, 108, 188, 352, 632, 1182, 2192, 4116, 7712, 14602, 27596, 52488}, []int{2, 3, 4, 6, 8, 13, 18, 30, 46, 78, 126, 224, 380, 687, 1224, 2250, 4112, 7685, 14310, 27012}},
		{3, []int{3, 6, 11, 24, 51, 130, 315, 834, 2195, 5934}, []int{3, 6, 10, 21, 39, 92, 198, 498, 1219, 3210}},
	} {
		for i := range book.beads {
			got, e := count.Beads(i+1, book.colours)
			wantNumber(t, fmt.Sprintf("Beads(%d, %d)", i+1, book.colours), got, e, book.beads[i])
			got, e = count.Bracelets(i+1, book.colours)
			wantNumber(t, fmt.Sprintf("Bracelets(%d, %d)", i+1, book.colours), got, e, book.bracelets[i])
		}
	}
}

// TestRingsOneByOne has C1: all rings, turned and turned over one by one.
func TestRingsOneByOne(t *testing.T) {
	for n := 1; n <= 8; n++ {
		for colours := 1; colours <= 8 && power(colours, n) <= 7000; colours++ {
			rows := colourings(n, colours)
			got, e := count.Beads(n, colours)
			wantNumber(t, fmt.Sprintf("Beads(%d, %d)", n, colours), got, e, parted([][]int{turn(n)}, rows))
			got, e = count.Bracelets(n, colours)
			wantNumber(t, fmt.Sprintf("Bracelets(%d, %d)", n, colours), got, e, parted([][]int{turn(n), over(n)}, rows))
		}
	}
}

// bigPower is exact at all sizes.
func bigPower(base, n int) *big.Int {
	return new(big.Int).Exp(big.NewInt(int64(base)), big.NewInt(int64(n)), nil)
}

// rows has of each d that divides n how many rows of colours there are that come round after d and not sooner: all that come round after d, without those that do so sooner.
func rows(n, colours int) map[int]*big.Int {
	out := map[int]*big.Int{}
	for d := 1; d <= n; d++ {
		if n%d != 0 {
			continue
		}
		out[d] = bigPower(colours, d)
		for sooner := 1; sooner < d; sooner++ {
			if d%sooner == 0 {
				out[d].Sub(out[d], out[sooner])
			}
		}
	}
	return out
}

// beads has a ring for each d rows that come round after d.
func beads(n, colours int) *big.Int {
	out := new(big.Int)
	for d, many := range rows(n, colours) {
		out.Add(out, new(big.Int).Div(many, big.NewInt(int64(d))))
	}
	return out
}

// bracelets are half of the beads and of those that look alike from both sides.
func bracelets(n, colours int) *big.Int {
	alike := new(big.Int).Add(bigPower(colours, n/2), bigPower(colours, n/2+1))
	if n%2 == 1 {
		alike.Mul(bigPower(colours, n/2+1), big.NewInt(2))
	}
	// twice the bracelets are the beads and, twice told here, those that look alike
	out := new(big.Int).Add(new(big.Int).Mul(beads(n, colours), big.NewInt(2)), alike)
	return out.Div(out, big.NewInt(4))
}

// TestRingsUpToTheEnd has C1: of all numbers of beads the greatest number of colours that may be, and some below; one more is ErrFull.
func TestRingsUpToTheEnd(t *testing.T) {
	most := big.NewInt(1_000_000_000_000_000_000)
	for n := 1; n <= 59; n++ {
		greatest := int(math.Pow(1e18, 1/float64(n)))
		for bigPower(greatest, n).Cmp(most) > 0 {
			greatest--
		}
		for bigPower(greatest+1, n).Cmp(most) <= 0 {
			greatest++
		}
		if greatest < 2 {
			t.Fatalf("%d beads have %d colours", n, greatest)
		}
		for _, colours := range []int{1, 2, greatest/2 + 1, greatest - 1, greatest} {
			got, e := count.Beads(n, colours)
			wantNumber(t, fmt.Sprintf("Beads(%d, %d)", n, colours), got, e, int(beads(n, colours).Int64()))
			got, e = count.Bracelets(n, colours)
			wantNumber(t, fmt.Sprintf("Bracelets(%d, %d)", n, colours), got, e, int(bracelets(n, colours).Int64()))
		}
		for _, colours := range []int{greatest + 1, 2*greatest + 1, math.MaxInt} {
			wantRingError(t, n, colours, api.ErrFull)
		}
	}
}

func wantRingError(t *testing.T, n, colours int, want api.Errno) {
	t.Helper()
	if got, e := count.Beads(n, colours); got != 0 || e != want {
		t.Errorf("Beads(%d, %d): got %d, error %d, want %d", n, colours, got, e, want)
	}
	if got, e := count.Bracelets(n, colours); got != 0 || e != want {
		t.Errorf("Bracelets(%d, %d): got %d, error %d, want %d", n, colours, got, e, want)
	}
}

// TestTooManyRings has C1's ErrFull, where the power is far too great for a number.
func TestTooManyRings(t *testing.T) {
	for _, n := range []int{60, 61, 62, 63, 64, 65, 128, 1 << 32, math.MaxInt} {
		for _, colours := range []int{2, 3, 4, 16, 256, 1 << 16, 1 << 32, 1 << 62, math.MaxInt} {
			wantRingError(t, n, colours, api.ErrFull)
		}
	}
	for _, x := range [][2]int{{1, 1_000_000_000_000_000_001}, {2, 1_000_000_001}, {2, 1 << 32}, {2, 1<<32 + 1}, {3, 1_000_001}, {4, 1 << 16}, {18, 11}, {38, 3}} {
		wantRingError(t, x[0], x[1], api.ErrFull)
	}
}

// TestRingsOfOneColour has C1: one to any power is 1, so there is one ring, of however many beads.
func TestRingsOfOneColour(t *testing.T) {
	for _, n := range []int{1, 2, 3, 59, 60, 61, 1000, 1 << 31, 1 << 40, math.MaxInt - 1, math.MaxInt} {
		got, e := count.Beads(n, 1)
		wantNumber(t, fmt.Sprintf("Beads(%d, 1)", n), got, e, 1)
		got, e = count.Bracelets(n, 1)
		wantNumber(t, fmt.Sprintf("Bracelets(%d, 1)", n), got, e, 1)
	}
}

// TestNoRings has C1's ErrRange, ahead of ErrFull.
func TestNoRings(t *testing.T) {
	for _, bad := range []int{0, -1, -2, -60, -1 << 32, math.MinInt + 1, math.MinInt} {
		for _, other := range []int{math.MinInt, -1, 0, 1, 2, 59, 60, 1_000_000_000_000_000_001, math.MaxInt} {
			wantRingError(t, bad, other, api.ErrRange)
			wantRingError(t, other, bad, api.ErrRange)
		}
	}
}
