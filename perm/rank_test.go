package perm_test

import (
	"fmt"
	"math"
	"slices"
	"testing"

	"parterre/api"
	"parterre/perm"
)

// far gives numbers above and below, just there and at the ends of all numbers.
func far(above, below int) []int {
	return []int{above, above + 1, 1 << 32, math.MaxInt, below, below - 1, -1 << 32, math.MinInt}
}

func wantRank(t *testing.T, a []int, want int) {
	t.Helper()
	if got, e := perm.Rank(a); got != want || e != api.OK {
		t.Errorf("Rank(%v): got %d, error %d; want %d", a, got, e, want)
	}
	got, e := perm.Unrank(len(a), want)
	wantList(t, fmt.Sprintf("Unrank(%d, %d)", len(a), want), got, e, a)
}

// TestRankOfAll has M4: the number of each one in the list of all, which is in order.
func TestRankOfAll(t *testing.T) {
	for n := range 8 {
		list := all(n)
		if !slices.IsSortedFunc(list, slices.Compare) {
			t.Fatalf("the permutations of %d points are not in order", n)
		}
		for k, a := range list {
			wantRank(t, a, k)
		}
	}
}

// TestRankOfMany has M4 of 12 points, and of each number of points the first and the last.
func TestRankOfMany(t *testing.T) {
	many := 1
	for n := 1; n <= api.MaxPoints; n++ {
		many *= n
		wantRank(t, stay(n), 0)
		last := stay(n)
		slices.Reverse(last)
		wantRank(t, last, many-1)
	}
	// Half of all begin with 0 to 5, and the first with 6 goes on with the others rising.
	wantRank(t, []int{6, 0, 1, 2, 3, 4, 5, 7, 8, 9, 10, 11}, many/2)
	wantRank(t, []int{5, 11, 10, 9, 8, 7, 6, 4, 3, 2, 1, 0}, many/2-1)
	wantRank(t, []int{0, 1, 2, 3, 4, 5, 6, 7, 8, 9, 11, 10}, 1)
	wantRank(t, []int{0, 1, 2, 3, 4, 5, 6, 7, 8, 10, 9, 11}, 2)
}

// TestNextHasTheNextRank has M4: from one to the next in order, all over 12 points.
func TestNextHasTheNextRank(t *testing.T) {
	for start := range 40 {
		a := mixed(12, start)
		k, e := perm.Rank(a)
		if e != api.OK {
			t.Fatalf("Rank(%v): error %d", a, e)
		}
		for range 50 {
			wantRank(t, a, k)
			if a = next(a); a == nil {
				break
			}
			k++
		}
	}
}

// next gives the one behind in order, or nil: what stands ahead of the longest end that falls gives way to the least greater number of that end, and the rest rises.
func next(a []int) []int {
	a = slices.Clone(a)
	for i := len(a) - 2; i >= 0; i-- {
		if a[i] > a[i+1] {
			continue
		}
		slices.Sort(a[i+1:])
		for j := i + 1; ; j++ {
			if a[j] > a[i] {
				a[i], a[j] = a[j], a[i]
				return a
			}
		}
	}
	return nil
}

// TestUnrankRange has M4's ErrRange: of n, and of what there is none of.
func TestUnrankRange(t *testing.T) {
	many := 1
	for n := range api.MaxPoints + 1 {
		if n > 0 {
			many *= n
		}
		for _, k := range far(many, -1) {
			wantNone(t, n, k)
		}
		if got, e := perm.Unrank(n, many-1); e != api.OK || len(got) != n {
			t.Errorf("Unrank(%d, %d): got %v, error %d", n, many-1, got, e)
		}
	}
	for _, n := range far(13, -1) {
		for _, k := range []int{0, 1, -1, many, math.MaxInt, math.MinInt} {
			wantNone(t, n, k)
		}
	}
}

func wantNone(t *testing.T, n, k int) {
	t.Helper()
	if got, e := perm.Unrank(n, k); e != api.ErrRange || len(got) != 0 {
		t.Errorf("Unrank(%d, %d): got %v, error %d", n, k, got, e)
	}
}
