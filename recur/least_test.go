package recur_test

import (
	"slices"
	"testing"

	"parterre/api"
	"parterre/recur"
)

// TestLeastOfAllShortRows has R3: all rows that are short enough to try all taps.
func TestLeastOfAllShortRows(t *testing.T) {
	for p, most := range map[int]int{2: 8, 3: 5, 5: 4, 7: 3} {
		for n := range most + 1 {
			for _, row := range lists(p, n) {
				l, taps := tried(p, row)
				wantLeast(t, p, row, l, taps)
				if m, others := solved(p, row); m != l || !slices.Equal(others, taps) {
					t.Fatalf("modulo %d, %v: tried %d, %v, solved %d, %v", p, row, l, taps, m, others)
				}
			}
		}
	}
}

// TestLeastOfLongRows has R3 up to MaxSeen: rows that nothing makes, and rows with a fault in them.
func TestLeastOfLongRows(t *testing.T) {
	for _, p := range primes() {
		for n := 0; n <= api.MaxSeen; n++ {
			row := mixed(p, n, n)
			l, taps := solved(p, row)
			wantLeast(t, p, row, l, taps)
		}
		for at := range api.MaxSeen {
			row := plainRow(p, []int{1, 0, 1}, []int{0, 1, 1}, api.MaxSeen)
			row[at] = (row[at] + 1) % p
			l, taps := solved(p, row)
			wantLeast(t, p, row, l, taps)
		}
	}
}

// TestLeastAtItsEdges has R3: no numbers, all 0, the last one alone, the first one alone, and last taps that are 0.
func TestLeastAtItsEdges(t *testing.T) {
	for _, p := range primes() {
		wantLeast(t, p, nil, 0, nil)
		wantLeast(t, p, []int{}, 0, nil)
		wantLeast(t, p, []int{1}, 1, nil)
		wantLeast(t, p, []int{0, 1}, 2, nil)
		wantLeast(t, p, []int{1, 0}, 1, []int{0})
		wantLeast(t, p, []int{1, 1, 0, 0}, 2, []int{0, 0})
		wantLeast(t, p, []int{0, p - 1, p - 1, p - 1}, 2, []int{1, 0})
		for n := 1; n <= api.MaxSeen; n++ {
			zeros := make([]int, n)
			wantLeast(t, p, zeros, 0, nil)
			zeros[n-1] = p - 1
			wantLeast(t, p, zeros, n, nil)
		}
	}
	// The only 1 in the middle: 30 taps are told of 60 numbers, 31 are not.
	row := make([]int, api.MaxSeen)
	row[29] = 1
	wantLeast(t, 2, row, 30, make([]int, 30))
	row[29], row[30] = 0, 1
	wantLeast(t, 2, row, 31, nil)
	wantLeast(t, 2, row[1:], 30, nil)
}

// TestLeastThatIsKnown has R3's examples.
func TestLeastThatIsKnown(t *testing.T) {
	wantLeast(t, 2, []int{0, 1, 1, 0, 1, 1}, 2, []int{1, 1})
	wantLeast(t, 3, []int{1, 2, 1, 2}, 1, []int{2})
	wantLeast(t, 2, []int{0, 0, 1}, 3, nil)
	wantLeast(t, 7, []int{1, 1, 2, 3, 5, 1, 6, 0, 6, 6}, 2, []int{1, 1})
	wantLeast(t, 5, []int{1, 2, 4, 3, 1}, 1, []int{2})
}

// TestLeastIsNoLongerThanWhatMakesTheRow has R5; and the taps that are told make it again.
func TestLeastIsNoLongerThanWhatMakesTheRow(t *testing.T) {
	rows := small(30)
	for _, p := range primes() {
		for k := 1; k <= api.MaxTaps; k++ {
			for start := range 5 {
				rows = append(rows, taken{p, mixed(p, start, k), mixed(p, start+9, k)})
			}
		}
	}
	for _, c := range rows {
		row := run(t, c.p, c.taps, c.seed, api.MaxSeen)
		l, taps, e := recur.Least(c.p, row)
		if e != api.OK || l > len(c.taps) || len(taps) != l {
			t.Fatalf("%v: Least: got %d, %v, error %d", c, l, taps, e)
		}
		if l > 0 && !slices.Equal(run(t, c.p, taps, row[:l], api.MaxSeen), row) {
			t.Fatalf("%v: Least: %v do not make it again", c, taps)
		}
	}
}
