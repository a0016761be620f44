package recur_test

import (
	"fmt"
	"slices"
	"testing"

	"parterre/api"
	"parterre/recur"
)

// TestRunGoesByTheTaps has R1 and R2: each recurrence of few windows, as far as a row is told.
func TestRunGoesByTheTaps(t *testing.T) {
	for _, c := range small(30) {
		for _, n := range []int{0, 1, len(c.taps), len(c.taps) + 1, 40} {
			got := run(t, c.p, c.taps, c.seed, n)
			if want := plainRow(c.p, c.taps, c.seed, n); !slices.Equal(got, want) {
				t.Fatalf("Run(%d, %v, %v, %d): got %v, want %v", c.p, c.taps, c.seed, n, got, want)
			}
		}
	}
}

// TestRunAtItsBounds has R2: as many taps as may be, and as many numbers; fewer numbers than taps; none.
func TestRunAtItsBounds(t *testing.T) {
	for _, p := range primes() {
		taps, seed := mixed(p, p, api.MaxTaps), mixed(p, p+1, api.MaxTaps)
		want := plainRow(p, taps, seed, api.MaxTerms)
		for _, n := range []int{0, 1, 7, 8, 9, 4999, 5000} {
			if got := run(t, p, taps, seed, n); !slices.Equal(got, want[:n]) {
				t.Errorf("Run(%d, %v, %v, %d) is not the row's beginning", p, taps, seed, n)
			}
		}
	}
}

// TestPeriodIsTheFirstThatComesAgain has R2, by holding all windows against each other.
func TestPeriodIsTheFirstThatComesAgain(t *testing.T) {
	behind := 0
	for _, c := range small(30) {
		ahead, period := plainPeriod(c.p, c.taps, c.seed)
		wantPeriod(t, c, ahead, period)
		if ahead > 0 {
			behind++
		}
	}
	if behind == 0 {
		t.Error("no row begins ahead of its period")
	}
}

// TestPeriodsThatAreKnown has R2's edges: rows that end in 0s, those of one number, and those of as many windows as may be.
func TestPeriodsThatAreKnown(t *testing.T) {
	zeros := make([]int, api.MaxTaps)
	last := []int{0, 0, 0, 0, 0, 0, 0, 1}
	for _, p := range []int{2, 3} { // of 8 taps there are at most MaxStates windows
		wantPeriod(t, taken{p, zeros, zeros}, 0, 1)
		wantPeriod(t, taken{p, zeros, last}, 8, 1)
		wantPeriod(t, taken{p, zeros, []int{1, 0, 0, 0, 0, 0, 0, 0}}, 1, 1)
		wantPeriod(t, taken{p, last, last}, 0, 8)
	}
	wantPeriod(t, taken{2, []int{0}, []int{1}}, 1, 1)
	wantPeriod(t, taken{7, []int{3}, []int{1}}, 0, 6)
	wantPeriod(t, taken{7, []int{2}, []int{1}}, 0, 3)
	wantPeriod(t, taken{7, []int{1}, []int{6}}, 0, 1)
	wantPeriod(t, taken{2, []int{0, 1, 0}, []int{1, 0, 1}}, 0, 2)
	wantPeriod(t, taken{2, []int{0, 1, 0}, []int{0, 0, 1}}, 1, 2)
}

// TestPeriodOfManyWindows has R2 up to MaxStates, and ErrFull just above it.
func TestPeriodOfManyWindows(t *testing.T) {
	most := map[int]int{2: 8, 3: 8, 5: 6, 7: 5}
	for _, p := range primes() {
		for k := 1; k <= api.MaxTaps; k++ {
			taps, seed := make([]int, k), make([]int, k)
			taps[k-1], seed[k-1] = 1, 1
			if k <= most[p] {
				wantPeriod(t, taken{p, taps, seed}, 0, k)
				continue
			}
			a, b, e := recur.Period(p, taps, seed)
			if a != 0 || b != 0 || e != api.ErrFull {
				t.Errorf("Period of %d and %d taps: got %d, %d, error %d", p, k, a, b, e)
			}
		}
	}
	// As long as a period can be, of as many windows as may be.
	for _, p := range primes() {
		seed := make([]int, most[p])
		seed[len(seed)-1] = 1
		wantPeriod(t, taken{p, primitive(p, len(seed)), seed}, 0, power(p, len(seed))-1)
	}
}

// primitive gives taps with which the powers of x have the longest period, by multiplying: x to the power of q - 1 is 1, and to the power of its parts by a prime is not.
func primitive(p, k int) []int {
	q := power(p, k)
	for _, taps := range lists(p, k) {
		if taps[k-1] == 0 || !isOne(p, taps, q-1) {
			continue
		}
		whole := true
		for d := 2; d < q; d++ {
			if (q-1)%d == 0 && isOne(p, taps, (q-1)/d) {
				whole = false
				break
			}
		}
		if whole {
			return taps
		}
	}
	return nil
}

// isOne tells whether x to the power of n is 1, where x to the power of k is taps[0] times the next lower one, and so on.
func isOne(p int, taps []int, n int) bool {
	k := len(taps)
	out, base := make([]int, k), make([]int, k)
	out[0] = 1
	if k == 1 {
		base[0] = taps[0]
	} else {
		base[1] = 1
	}
	for ; n > 0; n /= 2 {
		if n%2 == 1 {
			out = product(p, taps, out, base)
		}
		base = product(p, taps, base, base)
	}
	one := make([]int, k)
	one[0] = 1
	return slices.Equal(out, one)
}

func product(p int, taps, a, b []int) []int {
	k := len(taps)
	c := make([]int, 2*k-1)
	for i := range a {
		for j := range b {
			c[i+j] = (c[i+j] + a[i]*b[j]) % p
		}
	}
	for i := len(c) - 1; i >= k; i-- {
		for j, tap := range taps {
			c[i-1-j] = (c[i-1-j] + c[i]*tap) % p
		}
	}
	return c[:k]
}

// TestRowsAdd has R5: the sum of two rows is the row of the sum.
func TestRowsAdd(t *testing.T) {
	for _, p := range primes() {
		for k := 1; k <= api.MaxTaps; k++ {
			for start := range 5 {
				taps, a, b := mixed(p, start, k), mixed(p, start+10, k), mixed(p, start+20, k)
				x, y := run(t, p, taps, a, 200), run(t, p, taps, b, 200)
				if got := run(t, p, taps, sum(p, a, b), 200); !slices.Equal(got, sum(p, x, y)) {
					t.Errorf("modulo %d, taps %v: the rows of %v and %v do not add", p, taps, a, b)
				}
			}
		}
	}
}

func sum(p int, a, b []int) []int {
	out := make([]int, len(a))
	for i := range out {
		out[i] = (a[i] + b[i]) % p
	}
	return out
}

// TestFullIsTheFirst has R4: all that may be asked for, by the periods of all taps ahead.
func TestFullIsTheFirst(t *testing.T) {
	most := map[int]int{2: 8, 3: 6, 5: 4, 7: 3}
	for _, p := range primes() {
		for k := 1; k <= most[p]; k++ {
			seed := make([]int, k)
			seed[k-1] = 1
			var want []int
			for _, taps := range lists(p, k) {
				if comesBack(p, taps, seed) == power(p, k)-1 {
					want = taps
					break
				}
			}
			if got, e := recur.Full(p, k); e != api.OK || !slices.Equal(got, want) {
				t.Errorf("Full(%d, %d): got %v, error %d; want %v", p, k, got, e, want)
			}
			if byPowers := primitive(p, k); !slices.Equal(byPowers, want) {
				t.Errorf("modulo %d, %d taps: by rows %v, by powers %v", p, k, want, byPowers)
			}
		}
		for k := most[p] + 1; k < 12; k++ {
			if got, e := recur.Full(p, k); e != api.ErrFull || len(got) != 0 {
				t.Errorf("Full(%d, %d): got %v, error %d", p, k, got, e)
			}
		}
	}
}

// comesBack tells behind how many numbers the seed stands in the row again, 0 where it never does.
func comesBack(p int, taps, seed []int) int {
	window := slices.Clone(seed)
	for n := 1; n <= power(p, len(taps)); n++ {
		window = plainRow(p, taps, window, len(window)+1)[1:]
		if slices.Equal(window, seed) {
			return n
		}
	}
	return 0
}

// TestFullThatIsKnown has R4's example and some that are reckoned by hand.
func TestFullThatIsKnown(t *testing.T) {
	for _, c := range []struct {
		p, k int
		want []int
	}{
		{2, 1, []int{1}}, {3, 1, []int{2}}, {5, 1, []int{2}}, {7, 1, []int{3}},
		{2, 2, []int{1, 1}}, {3, 2, []int{1, 1}}, {2, 3, []int{1, 0, 1}}, {2, 4, []int{1, 0, 0, 1}},
	} {
		if got, e := recur.Full(c.p, c.k); e != api.OK || !slices.Equal(got, c.want) {
			t.Errorf("Full(%d, %d): got %v, error %d; want %v", c.p, c.k, got, e, c.want)
		}
	}
}

// TestFullRowHasEachWindowOnce has R5: in one period each window but that of 0s.
func TestFullRowHasEachWindowOnce(t *testing.T) {
	for _, c := range [][2]int{{2, 1}, {2, 8}, {3, 1}, {3, 6}, {5, 4}, {7, 3}, {2, 5}, {3, 2}} {
		p, k := c[0], c[1]
		taps, e := recur.Full(p, k)
		if e != api.OK {
			t.Fatalf("Full(%d, %d): error %d", p, k, e)
		}
		seed := make([]int, k)
		seed[k-1] = 1
		wantPeriod(t, taken{p, taps, seed}, 0, power(p, k)-1)
		row := run(t, p, taps, seed, power(p, k)-1+k-1)
		often := map[string]int{}
		for i := range power(p, k) - 1 {
			often[fmt.Sprint(row[i:i+k])]++
		}
		if len(often) != power(p, k)-1 || often[fmt.Sprint(make([]int, k))] != 0 {
			t.Errorf("Full(%d, %d): %d windows in one period", p, k, len(often))
		}
	}
}
